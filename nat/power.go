package nat

import "chirograph/api"

// ExpMod: a power modulo m.
func ExpMod(b, e, m []uint32) ([]uint32, api.Errno) {
	if fault := powerFault(b, e, m); fault != api.OK {
		return nil, fault
	}
	return power(cut(b), cut(e), cut(m)), api.OK
}

// powerFault lets the base be a product, and bounds what the work grows with.
func powerFault(b, e, m []uint32) api.Errno {
	switch {
	case len(b) > api.MaxLimbs:
		fallthrough
	case len(e) > api.MaxModulus:
		fallthrough
	case len(m) > api.MaxModulus:
		return api.ErrLong
	case length(m) == 0:
		return api.ErrZero
	}
	return api.OK
}

// power squares and multiplies, from the exponent's highest bit down.
func power(b, e, m []uint32) []uint32 {
	b = rest(b, m)
	x := rest(Small(1), m)
	n := Bits(e)
	for k := range n {
		x = rest(product(x, x), m)
		if hasBit(e, n-1-k) {
			x = rest(product(x, b), m)
		}
	}
	return x
}

func hasBit(a []uint32, i int) bool {
	return a[i/32]>>(i%32)&1 == 1
}

// Inverse: the inverse modulo m.
func Inverse(a, m []uint32) ([]uint32, api.Errno) {
	switch {
	case tooLong(a, m):
		return nil, api.ErrLong
	case length(m) == 0:
		return nil, api.ErrZero
	}
	divisor, factor := euclid(cut(a), cut(m))
	if Cmp(divisor, Small(1)) != 0 {
		return nil, api.ErrNone
	}
	return factor, api.OK
}

// euclid tells the greatest common divisor of a and m, and a factor below m by
// which a is that divisor modulo m.
//
// The factors of two neighbouring rests have opposite signs: so their sizes
// only grow, and one bool says which of the two is the negative one.
func euclid(a, m []uint32) (divisor, factor []uint32) {
	r, next := Trim(m), rest(a, m)
	f, nextFactor := Small(0), Small(1)
	negative := true
	for len(next) > 0 {
		q, left := divide(r, next)
		r, next = next, left
		f, nextFactor = nextFactor, sum(f, product(q, nextFactor))
		negative = !negative
	}
	if negative && len(f) > 0 {
		f = difference(m, f)
	}
	return r, f
}
