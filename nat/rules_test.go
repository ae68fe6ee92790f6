package nat_test

import (
	"math/rand"
	"slices"
	"testing"

	"chirograph/api"
	"chirograph/nat"
)

// calls are all that take two lists and have the same first error.
var calls = []struct {
	name string
	call func(a, b limbs) ([]limbs, api.Errno)
}{
	{"Add", one(nat.Add)},
	{"Sub", one(nat.Sub)},
	{"Mul", one(nat.Mul)},
	{"Inverse", one(nat.Inverse)},
	{"DivMod", func(a, b limbs) ([]limbs, api.Errno) {
		q, r, e := nat.DivMod(a, b)
		return []limbs{q, r}, e
	}},
	{"ExpMod, base and modulus", func(a, b limbs) ([]limbs, api.Errno) {
		x, e := nat.ExpMod(a, limbs{3}, b)
		return []limbs{x}, e
	}},
	{"ExpMod, exponent", func(a, b limbs) ([]limbs, api.Errno) {
		x, e := nat.ExpMod(limbs{3}, a, b)
		return []limbs{x}, e
	}},
	{"Trim", func(a, b limbs) ([]limbs, api.Errno) { return []limbs{nat.Trim(a), nat.Trim(b)}, api.OK }},
}

func one(f func(a, b []uint32) ([]uint32, api.Errno)) func(a, b limbs) ([]limbs, api.Errno) {
	return func(a, b limbs) ([]limbs, api.Errno) {
		x, e := f(a, b)
		return []limbs{x}, e
	}
}

// P1.2, and the rule of the first error: a list that is too long is told ahead
// of all else, were it of limbs 0 only.
func TestListTooLong(t *testing.T) {
	over, most := make(limbs, api.MaxLimbs+1), make(limbs, api.MaxLimbs)
	for _, c := range calls {
		if c.name == "Trim" {
			continue
		}
		for _, pair := range [][2]limbs{{over, {1}}, {{1}, over}, {over, over}, {over, nil}, {nil, over}, {over, most}, {most, over}} {
			l, e := c.call(pair[0], pair[1])
			for _, x := range l {
				wantError(t, c.name, x, e, api.ErrLong)
			}
		}
	}
}

// A list of just MaxLimbs limbs is none that is too long.
func TestListOfMostLimbs(t *testing.T) {
	most := padded(limbs{9}, api.MaxLimbs-1)
	for _, c := range calls[:5] {
		if _, e := c.call(most, padded(limbs{4}, api.MaxLimbs-1)); e != api.OK {
			t.Errorf("%s: error %d", c.name, e)
		}
	}
	if b, e := nat.Bytes(most, 1); e != api.OK || !slices.Equal(b, []byte{9}) {
		t.Errorf("Bytes: %v, error %d", b, e)
	}
}

// roomy has spare room in which something stands.
func roomy(a limbs) limbs {
	l := append(slices.Clone(a), 11, 12, 13, 14, 15, 16)
	return l[:len(a)]
}

func whole[T any](l []T) []T {
	return l[:cap(l)]
}

// scribble overwrites an answer, its spare room too.
func scribble(l limbs) {
	for i := range whole(l) {
		whole(l)[i] = 77
	}
}

var pairs = [][2]limbs{
	{nil, nil},
	{{0, 0, 0}, {0, 0}},
	{{7}, {3}},
	{{3}, {7}},
	{{3, 0, 0}, {7, 0}},
	{{5, 6, 7, 8}, {1, 2}},
	{{5, 6}, {5, 6}},
	{{1}, {5, 6, 1}},
	{{top, top, top, 0}, {top, top}},
	{{2}, nil},
	{nil, {2}},
	{{0, 1}, {1}},
	{{1}, {1}},
}

// The rule of memory: arguments stay as they are, whatever becomes of answers;
// and no answer is changed by what becomes of another.
func TestMemory(t *testing.T) {
	for _, c := range calls {
		for _, pair := range pairs {
			a, b := roomy(pair[0]), roomy(pair[1])
			wasA, wasB := slices.Clone(whole(a)), slices.Clone(whole(b))
			first, _ := c.call(a, b)
			second, _ := c.call(a, b)
			checkApart(t, c.name, first, second)
			if !slices.Equal(whole(a), wasA) || !slices.Equal(whole(b), wasB) {
				t.Errorf("%s(%v, %v): an argument was changed", c.name, pair[0], pair[1])
			}
		}
	}
}

// checkApart scribbles on one list after the other and looks at those that follow.
func checkApart(t *testing.T, name string, first, second []limbs) {
	t.Helper()
	if !slices.EqualFunc(first, second, slices.Equal[limbs]) {
		t.Errorf("%s: two answers to one question: %v, %v", name, first, second)
	}
	all := slices.Concat(first, second)
	for i := range all {
		scribble(all[i])
		for _, later := range all[i+1:] {
			if slices.Contains(whole(later), 77) {
				t.Errorf("%s: two lists share memory", name)
			}
		}
	}
}

// One list as both arguments is like two that are alike.
func TestSameListTwice(t *testing.T) {
	for _, c := range calls {
		for _, pair := range pairs {
			a := roomy(pair[0])
			was := slices.Clone(whole(a))
			got, e := c.call(a, a)
			other, f := c.call(slices.Clone(a), slices.Clone(a))
			if e != f || !slices.EqualFunc(got, other, slices.Equal[limbs]) || !slices.Equal(whole(a), was) {
				t.Errorf("%s(%v) with itself: %v, error %d", c.name, pair[0], got, e)
			}
		}
	}
}

func TestMemoryOfBytes(t *testing.T) {
	a := roomy(limbs{0x01020304, 0, 0})
	was := slices.Clone(whole(a))
	b, _ := nat.Bytes(a, 6)
	c, _ := nat.Bytes(a, 6)
	clear(whole(b))
	if !slices.Equal(c, []byte{0, 0, 1, 2, 3, 4}) || !slices.Equal(whole(a), was) {
		t.Errorf("Bytes: %v, %v", c, whole(a))
	}
	back, _ := nat.FromBytes(c)
	again, _ := nat.FromBytes(c)
	scribble(back)
	if !slices.Equal(c, []byte{0, 0, 1, 2, 3, 4}) || !slices.Equal(again, limbs{0x01020304}) {
		t.Errorf("FromBytes: %v, %v", c, again)
	}
	s := nat.Small(5)
	scribble(s)
	if s = nat.Small(5); !slices.Equal(s, limbs{5}) {
		t.Errorf("Small: %v", s)
	}
}

// P1.7

func TestLawsOfSums(t *testing.T) {
	r := rand.New(rand.NewSource(7))
	for range 1000 {
		a, b, c := some(r, r.Intn(30)), some(r, r.Intn(30)), some(r, r.Intn(30))
		s := add(t, a, b)
		want(t, "Sub undoes Add", sub(t, s, b), api.OK, nat.Trim(a))
		want(t, "Add turned about", add(t, b, a), api.OK, s)
		want(t, "Mul turned about", mul(t, b, a), api.OK, mul(t, a, b))
		want(t, "Mul goes into sums", mul(t, c, s), api.OK, add(t, mul(t, c, a), mul(t, c, b)))
	}
}

func TestLawsOfQuotients(t *testing.T) {
	r := rand.New(rand.NewSource(8))
	for range 1000 {
		a, b := some(r, r.Intn(60)), some(r, 1+r.Intn(30))
		if nat.Bits(b) == 0 {
			continue
		}
		q, left := divMod(t, a, b)
		want(t, "a quotient times the divisor, and the rest", add(t, mul(t, q, b), left), api.OK, nat.Trim(a))
		if nat.Cmp(left, b) >= 0 {
			t.Errorf("DivMod(%v, %v): the rest %v", a, b, left)
		}
	}
}

func TestLawsOfPowers(t *testing.T) {
	r := rand.New(rand.NewSource(9))
	for range 200 {
		b, e, f, m := some(r, r.Intn(6)), some(r, r.Intn(3)), some(r, r.Intn(3)), some(r, 1+r.Intn(4))
		if nat.Bits(m) == 0 {
			continue
		}
		_, both := divMod(t, mul(t, expMod(t, b, e, m), expMod(t, b, f, m)), m)
		want(t, "powers of a sum of exponents", expMod(t, b, add(t, e, f), m), api.OK, both)
	}
}

func TestLawsOfInverses(t *testing.T) {
	r := rand.New(rand.NewSource(10))
	met := 0
	for range 1000 {
		a, m := some(r, r.Intn(6)), some(r, 1+r.Intn(4))
		if nat.Bits(m) == 0 {
			continue
		}
		x, e := nat.Inverse(a, m)
		if e != api.OK {
			continue
		}
		met++
		_, modulo := divMod(t, a, m)
		y, e := nat.Inverse(x, m)
		want(t, "an inverse's inverse", y, e, modulo)
		_, unity := divMod(t, mul(t, a, x), m)
		_, one := divMod(t, limbs{1}, m)
		want(t, "a number times its inverse", unity, api.OK, one)
	}
	if met < 100 {
		t.Errorf("only %d numbers had an inverse", met)
	}
}

func TestLawsOfBytes(t *testing.T) {
	r := rand.New(rand.NewSource(11))
	for range 1000 {
		b := make([]byte, r.Intn(40))
		r.Read(b)
		a, e := nat.FromBytes(b)
		must(t, a, e)
		back, e := nat.Bytes(a, len(b))
		if e != api.OK || !slices.Equal(back, b) {
			t.Errorf("Bytes of FromBytes(%v): %v, error %d", b, back, e)
		}
		n := some(r, r.Intn(10))
		b, e = nat.Bytes(n, 4*len(n)+r.Intn(9))
		must(t, nil, e)
		again, e := nat.FromBytes(b)
		want(t, "FromBytes of Bytes", again, e, nat.Trim(n))
	}
}
