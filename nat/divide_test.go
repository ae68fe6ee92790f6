package nat_test

import (
	"math/big"
	"math/rand"
	"slices"
	"testing"

	"chirograph/api"
	"chirograph/nat"
)

// P1.3

func wantDivision(t *testing.T, a, b limbs) {
	t.Helper()
	q, r, e := nat.DivMod(a, b)
	bq, br := new(big.Int).QuoRem(big1(a), big1(b), new(big.Int))
	want(t, "quotient", q, e, list(bq))
	want(t, "rest", r, e, list(br))
	if t.Failed() {
		t.Fatalf("DivMod(%v, %v)", a, b)
	}
}

func TestDivMod(t *testing.T) {
	for _, c := range []struct{ a, b, q, r limbs }{
		{limbs{7}, limbs{2}, limbs{3}, limbs{1}},
		{nil, limbs{2}, nil, nil},
		{limbs{0, 0}, limbs{2, 0}, nil, nil},
		{limbs{7, 0}, limbs{0, 1}, nil, limbs{7}},
		{limbs{5, 6}, limbs{1}, limbs{5, 6}, nil},
		{limbs{5, 6, 0}, limbs{5, 6}, limbs{1}, nil},
		{limbs{0, 0, 1}, limbs{1, 1}, limbs{top}, limbs{1}},
		{limbs{0, 0, 1}, limbs{top}, limbs{1, 1}, limbs{1}},
		{full(api.MaxLimbs), full(api.MaxLimbs), limbs{1}, nil},
		{full(api.MaxLimbs - 1), unit(api.MaxLimbs - 1), nil, full(api.MaxLimbs - 1)},
		{unit(api.MaxLimbs - 1), padded(limbs{1}, api.MaxLimbs-1), unit(api.MaxLimbs - 1), nil},
	} {
		q, r, e := nat.DivMod(c.a, c.b)
		want(t, "quotient", q, e, c.q)
		want(t, "rest", r, e, c.r)
	}
}

func TestDivModByZero(t *testing.T) {
	for _, b := range []limbs{nil, {0}, make(limbs, api.MaxLimbs)} {
		for _, a := range []limbs{nil, {5}, full(api.MaxLimbs)} {
			q, r, e := nat.DivMod(a, b)
			wantError(t, "quotient", q, e, api.ErrZero)
			wantError(t, "rest", r, e, api.ErrZero)
		}
	}
}

func TestDivModAgainstLibrary(t *testing.T) {
	r := rand.New(rand.NewSource(3))
	for range 20000 {
		a, b := some(r, r.Intn(12)), some(r, 1+r.Intn(6))
		if nat.Bits(b) > 0 {
			wantDivision(t, a, b)
		}
	}
	for range 40 {
		a, b := some(r, api.MaxLimbs), some(r, 1+r.Intn(api.MaxLimbs))
		if nat.Bits(b) > 0 {
			wantDivision(t, a, b)
		}
	}
}

// A limb of a quotient that is guessed from the highest limbs may be too great,
// by one, by two, or be no limb at all: each limb of these is at an edge.
func TestDivModWhereGuessesAreTooGreat(t *testing.T) {
	edges := limbs{0, 1, 2, 1<<31 - 1, 1 << 31, 1<<31 + 1, top - 1, top}
	for _, b1 := range edges[1:] {
		for _, b0 := range edges {
			for _, a3 := range edges {
				for _, a2 := range edges {
					for _, a1 := range edges {
						wantDivision(t, limbs{a1, a2, a3}, limbs{b0, b1})
						wantDivision(t, limbs{b1, a1, a2, a3}, limbs{b0, 0, b1})
						wantDivision(t, limbs{0, a1, a2, a3}, limbs{top, b0, b1})
					}
				}
			}
		}
	}
}

// P1.4

func wantPower(t *testing.T, b, e, m limbs) {
	t.Helper()
	x, err := nat.ExpMod(b, e, m)
	want(t, "ExpMod", x, err, list(new(big.Int).Exp(big1(b), big1(e), big1(m))))
}

func TestExpMod(t *testing.T) {
	for _, c := range []struct{ b, e, m, want limbs }{
		{limbs{3}, limbs{4}, limbs{5}, limbs{1}},
		{limbs{2}, limbs{0, 1}, limbs{5}, limbs{1}},
		{limbs{2}, limbs{10, 0, 0}, limbs{1000, 0}, limbs{24}},
		{limbs{8}, limbs{1}, limbs{5}, limbs{3}},
		{limbs{2}, nil, limbs{5}, limbs{1}},
		{limbs{2}, limbs{0, 0}, limbs{5}, limbs{1}},
		{nil, nil, limbs{5}, limbs{1}},
		{limbs{5}, nil, limbs{5}, limbs{1}},
		{nil, limbs{3}, limbs{5}, nil},
		{limbs{10}, limbs{3}, limbs{5}, nil},
		{limbs{2}, nil, limbs{1}, nil},
		{nil, nil, limbs{1}, nil},
		{limbs{7}, limbs{9}, limbs{1, 0, 0}, nil},
		{limbs{0, 1}, limbs{2}, limbs{0, 0, 1, 0}, nil},
	} {
		x, e := nat.ExpMod(c.b, c.e, c.m)
		want(t, "ExpMod", x, e, c.want)
	}
}

func TestExpModAgainstLibrary(t *testing.T) {
	r := rand.New(rand.NewSource(4))
	for range 1500 {
		b, e, m := some(r, r.Intn(8)), some(r, r.Intn(4)), some(r, 1+r.Intn(5))
		if nat.Bits(m) > 0 {
			wantPower(t, b, e, m)
		}
	}
}

func TestExpModLongest(t *testing.T) {
	wantPower(t, full(api.MaxLimbs), limbs{65537}, full(api.MaxModulus))
	wantPower(t, limbs{3}, full(api.MaxModulus), limbs{1, 2, 3})
	wantPower(t, padded(limbs{3}, api.MaxLimbs-1), padded(limbs{5}, api.MaxModulus-1), padded(limbs{7}, api.MaxModulus-1))
}

func TestExpModWrong(t *testing.T) {
	more, over := make(limbs, api.MaxModulus+1), make(limbs, api.MaxLimbs+1)
	one := limbs{1}
	for _, c := range []struct {
		b, e, m limbs
		want    api.Errno
	}{
		{over, one, one, api.ErrLong},
		{one, over, one, api.ErrLong},
		{one, one, over, api.ErrLong},
		{one, more, one, api.ErrLong},
		{one, one, more, api.ErrLong},
		{one, one, padded(one, api.MaxModulus), api.ErrLong},
		{one, one, nil, api.ErrZero},
		{one, nil, limbs{0, 0}, api.ErrZero},
		{one, one, make(limbs, api.MaxModulus), api.ErrZero},
		// The first error: lengths, then a modulus 0.
		{over, one, nil, api.ErrLong},
		{one, more, nil, api.ErrLong},
	} {
		x, e := nat.ExpMod(c.b, c.e, c.m)
		wantError(t, "ExpMod", x, e, c.want)
	}
}

// P1.5

func wantInverse(t *testing.T, a, m limbs) {
	t.Helper()
	x, e := nat.Inverse(a, m)
	ba, bm := big1(a), big1(m)
	switch {
	case bm.Cmp(big.NewInt(1)) == 0:
		want(t, "Inverse modulo 1", x, e, nil)
	case new(big.Int).GCD(nil, nil, ba, bm).Cmp(big.NewInt(1)) != 0:
		wantError(t, "Inverse", x, e, api.ErrNone)
	default:
		want(t, "Inverse", x, e, list(new(big.Int).ModInverse(ba, bm)))
	}
}

func TestInverse(t *testing.T) {
	for _, c := range []struct{ a, m, want limbs }{
		{limbs{3}, limbs{7}, limbs{5}},
		{limbs{1}, limbs{7}, limbs{1}},
		{limbs{6}, limbs{7}, limbs{6}},
		{limbs{10, 0}, limbs{7, 0}, limbs{5}},
		{limbs{1}, limbs{2}, limbs{1}},
		{nil, limbs{1}, nil},
		{limbs{5}, limbs{1, 0}, nil},
		{full(api.MaxLimbs), limbs{1}, nil},
		{limbs{top}, limbs{0, 1}, limbs{top}},
		{limbs{0, 1}, limbs{top, 1}, limbs{2}},
	} {
		x, e := nat.Inverse(c.a, c.m)
		want(t, "Inverse", x, e, c.want)
	}
}

func TestInverseNone(t *testing.T) {
	for _, c := range []struct{ a, m limbs }{
		{limbs{2}, limbs{4}},
		{nil, limbs{2}},
		{limbs{0, 0}, limbs{0, 1}},
		{limbs{7}, limbs{7}},
		{limbs{14}, limbs{7}},
		{limbs{6}, limbs{0, 0, 1}},
		{make(limbs, api.MaxLimbs), full(api.MaxLimbs)},
	} {
		x, e := nat.Inverse(c.a, c.m)
		wantError(t, "Inverse", x, e, api.ErrNone)
	}
}

func TestInverseOfZero(t *testing.T) {
	for _, m := range []limbs{nil, {0}, make(limbs, api.MaxLimbs)} {
		for _, a := range []limbs{nil, {1}, full(api.MaxLimbs)} {
			x, e := nat.Inverse(a, m)
			wantError(t, "Inverse", x, e, api.ErrZero)
		}
	}
}

func TestInverseAgainstLibrary(t *testing.T) {
	for m := range uint32(40) {
		for a := range uint32(50) {
			wantInverse(t, limbs{a}, limbs{m + 1})
		}
	}
	r := rand.New(rand.NewSource(5))
	for range 3000 {
		a, m := some(r, r.Intn(9)), some(r, 1+r.Intn(6))
		if nat.Bits(m) > 0 {
			wantInverse(t, a, m)
		}
	}
}

func TestInverseLongest(t *testing.T) {
	r := rand.New(rand.NewSource(6))
	m := some(r, api.MaxLimbs)
	m[0] |= 1
	m[api.MaxLimbs-1] = top
	wantInverse(t, limbs{2}, m)
	wantInverse(t, slices.Concat(m[:api.MaxLimbs-1], limbs{top - 1}), m)
	wantInverse(t, full(api.MaxLimbs), limbs{10})
	wantInverse(t, some(r, api.MaxLimbs), m)
}
