package nat

import (
	"math/bits"

	"chirograph/api"
)

// DivMod: the quotient and the rest.
func DivMod(a, b []uint32) (q, r []uint32, e api.Errno) {
	switch {
	case tooLong(a, b):
		return nil, nil, api.ErrLong
	case length(b) == 0:
		return nil, nil, api.ErrZero
	}
	q, r = divide(cut(a), cut(b))
	return q, r, api.OK
}

// divide tells quotient and rest in new memory; b is not 0.
func divide(a, b []uint32) (q, r []uint32) {
	switch {
	case Cmp(a, b) < 0:
		return nil, Trim(a)
	case len(b) == 1:
		return divideByLimb(a, b[0])
	}
	return divideLong(a, b)
}

// rest tells what divide leaves.
func rest(a, m []uint32) []uint32 {
	_, r := divide(a, m)
	return r
}

// divideByLimb divides limb by limb, from the highest down.
func divideByLimb(a []uint32, b uint32) (q, r []uint32) {
	q = make([]uint32, len(a))
	var left uint64
	for k := range len(a) {
		i := len(a) - 1 - k
		left = left<<32 | uint64(a[i])
		q[i] = uint32(left / uint64(b))
		left %= uint64(b)
	}
	return cut(q), Small(left)
}

// divideLong divides as one does by hand; b has two limbs or more and is not
// above a. Both are shifted until b's highest bit is set: only then are a few
// limbs enough to guess a limb of the quotient.
func divideLong(a, b []uint32) (q, r []uint32) {
	shift := bits.LeadingZeros32(b[len(b)-1])
	left, divisor := shiftUp(a, shift), cut(shiftUp(b, shift))
	q = make([]uint32, len(a)-len(b)+1)
	for k := range len(q) {
		i := len(q) - 1 - k
		q[i] = divideStep(left[i:i+len(b)+1], divisor)
	}
	shiftDown(left, shift)
	return cut(q), cut(left)
}

// divideStep takes divisor from left as often as it goes, and tells how often;
// left has one limb more than divisor, and it goes less than 2^32 times.
func divideStep(left, divisor []uint32) uint32 {
	n := len(divisor)
	times := guess(left[n-2:], divisor[n-2:])
	over := takeTimes(left, divisor, times)
	below := left[n] < over
	left[n] -= over
	if below { // the guess was one too great
		left[n] += addTimes(left, divisor, 1)
		times--
	}
	return times
}

// guess tells from the highest three limbs of what is left, and the highest two
// of the divisor, how often it goes: rightly, or one too often.
func guess(left, divisor []uint32) uint32 {
	high, low := uint64(divisor[1]), uint64(divisor[0])
	top := uint64(left[2])<<32 | uint64(left[1])
	times, over := top/high, top%high
	for over < 1<<32 && (times >= 1<<32 || times*low > over<<32|uint64(left[0])) {
		times--
		over += high
	}
	return uint32(times)
}

// shiftUp shifts by fewer than 32 bits, in new memory of one limb more.
func shiftUp(a []uint32, shift int) []uint32 {
	s := make([]uint32, len(a)+1)
	var carry uint64
	for i := range len(a) {
		carry |= uint64(a[i]) << shift
		s[i] = uint32(carry)
		carry >>= 32
	}
	s[len(a)] = uint32(carry)
	return s
}

// shiftDown undoes shiftUp, in place.
func shiftDown(a []uint32, shift int) {
	var high uint64
	for k := range len(a) {
		i := len(a) - 1 - k
		both := high<<32 | uint64(a[i])
		a[i] = uint32(both >> shift)
		high = both & (1<<shift - 1)
	}
}
