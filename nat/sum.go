package nat

import "chirograph/api"

// Add: the sum.
func Add(a, b []uint32) ([]uint32, api.Errno) {
	if tooLong(a, b) {
		return nil, api.ErrLong
	}
	return fitting(sum(cut(a), cut(b)))
}

// Sub: the difference.
func Sub(a, b []uint32) ([]uint32, api.Errno) {
	switch {
	case tooLong(a, b):
		return nil, api.ErrLong
	case Cmp(a, b) < 0:
		return nil, api.ErrUnder
	}
	return difference(cut(a), cut(b)), api.OK
}

// Mul: the product.
func Mul(a, b []uint32) ([]uint32, api.Errno) {
	if tooLong(a, b) {
		return nil, api.ErrLong
	}
	return fitting(product(cut(a), cut(b)))
}

// fitting lets through a result that needs no more limbs than there may be.
func fitting(a []uint32) ([]uint32, api.Errno) {
	if len(a) > api.MaxLimbs {
		return nil, api.ErrLong
	}
	return a, api.OK
}

// sum adds in new memory.
func sum(a, b []uint32) []uint32 {
	if len(a) < len(b) {
		a, b = b, a
	}
	s := make([]uint32, len(a)+1)
	copy(s, a)
	carry := addTimes(s, b, 1)
	for i := len(b); carry > 0; i++ {
		s[i] += carry
		carry = 0
		if s[i] == 0 {
			carry = 1
		}
	}
	return cut(s)
}

// difference subtracts in new memory; b is not above a.
func difference(a, b []uint32) []uint32 {
	d := make([]uint32, len(a))
	copy(d, a)
	borrow := takeTimes(d, b, 1)
	for i := len(b); borrow > 0; i++ {
		d[i] -= borrow
		borrow = 0
		if d[i] == 1<<32-1 {
			borrow = 1
		}
	}
	return cut(d)
}

// product multiplies in new memory, each limb of a with all of b.
func product(a, b []uint32) []uint32 {
	p := make([]uint32, len(a)+len(b))
	for i := range len(a) {
		p[i+len(b)] = addTimes(p[i:], b, a[i])
	}
	return cut(p)
}

// addTimes adds x times b to the lowest len(b) limbs of a, and tells what is
// carried beyond them. (A product of limbs and two limbs more fit in 64 bits.)
func addTimes(a, b []uint32, x uint32) uint32 {
	a = a[:len(b)]
	var carry uint64
	for i := range len(b) {
		carry += uint64(x)*uint64(b[i]) + uint64(a[i])
		a[i] = uint32(carry)
		carry >>= 32
	}
	return uint32(carry)
}

// takeTimes takes x times b from the lowest len(b) limbs of a, and tells what
// is still to be taken beyond them.
func takeTimes(a, b []uint32, x uint32) uint32 {
	a = a[:len(b)]
	var carry uint64
	for i := range len(b) {
		carry += uint64(x) * uint64(b[i])
		left := uint64(a[i]) - carry&(1<<32-1)
		a[i] = uint32(left)
		carry = carry>>32 + left>>63
	}
	return uint32(carry)
}
