package curve

import "chirograph/nat"

// field is a prime, modulo which is reckoned: with numbers below it, without
// limbs 0 at their ends. (No number here is so long that nat refuses it.)
type field []uint32

func (f field) plus(a, b []uint32) []uint32 {
	s, _ := nat.Add(a, b)
	if nat.Cmp(s, f) >= 0 {
		s, _ = nat.Sub(s, f)
	}
	return s
}

func (f field) minus(a, b []uint32) []uint32 {
	if nat.Cmp(a, b) < 0 {
		a, _ = nat.Add(a, f)
	}
	d, _ := nat.Sub(a, b)
	return d
}

func (f field) times(a, b []uint32) []uint32 {
	p, _ := nat.Mul(a, b)
	_, rest, _ := nat.DivMod(p, f)
	return rest
}

func (f field) square(a []uint32) []uint32 {
	return f.times(a, a)
}

func (f field) twice(a []uint32) []uint32 {
	return f.plus(a, a)
}

func (f field) thrice(a []uint32) []uint32 {
	return f.plus(f.twice(a), a)
}
