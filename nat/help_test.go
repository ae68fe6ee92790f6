package nat_test

import (
	"math/big"
	"math/rand"
	"slices"
	"testing"

	"chirograph/api"
	"chirograph/nat"
)

const top = 1<<32 - 1

type limbs = []uint32

// big1 is the value of a list, reckoned by the library.
func big1(a limbs) *big.Int {
	v := new(big.Int)
	for i := len(a) - 1; i >= 0; i-- {
		v.Lsh(v, 32)
		v.Or(v, big.NewInt(int64(a[i])))
	}
	return v
}

// list is the number of a value.
func list(v *big.Int) limbs {
	var a limbs
	for v = new(big.Int).Set(v); v.Sign() > 0; v.Rsh(v, 32) {
		a = append(a, uint32(new(big.Int).And(v, big.NewInt(top)).Uint64()))
	}
	return a
}

// full has n limbs, all of their bits set.
func full(n int) limbs {
	return slices.Repeat(limbs{top}, n)
}

// unit is 2^(32 n): one limb 1 above n limbs 0.
func unit(n int) limbs {
	return append(make(limbs, n), 1)
}

// padded puts n limbs 0 behind a.
func padded(a limbs, n int) limbs {
	return append(slices.Clone(a), make(limbs, n)...)
}

// some has n limbs, many of them such as carries stumble over; now and then
// limbs 0 at the end.
func some(r *rand.Rand, n int) limbs {
	a := make(limbs, n)
	for i := range a {
		switch r.Intn(6) {
		case 0:
			a[i] = 0
		case 1:
			a[i] = top
		case 2:
			a[i] = 1 << 31
		case 3:
			a[i] = uint32(r.Intn(3))
		default:
			a[i] = r.Uint32()
		}
	}
	return a
}

// want holds an answer against the number that is asked for: to the limb, so
// that limbs 0 at the end are seen too.
func want(t *testing.T, what string, got limbs, e api.Errno, number limbs) {
	t.Helper()
	if e != api.OK || !slices.Equal(got, number) {
		t.Errorf("%s: %v, error %d; wanted %v", what, got, e, number)
	}
}

// wantError asks that beside the error there is nothing.
func wantError(t *testing.T, what string, got limbs, e, asked api.Errno) {
	t.Helper()
	if e != asked || len(got) != 0 {
		t.Errorf("%s: error %d and %d limbs; wanted error %d", what, e, len(got), asked)
	}
}

// Those that must go right, for laws and longer reckonings.
func must(t *testing.T, a limbs, e api.Errno) limbs {
	t.Helper()
	if e != api.OK {
		t.Fatalf("error %d", e)
	}
	return a
}

func add(t *testing.T, a, b limbs) limbs {
	t.Helper()
	s, e := nat.Add(a, b)
	return must(t, s, e)
}

func sub(t *testing.T, a, b limbs) limbs {
	t.Helper()
	d, e := nat.Sub(a, b)
	return must(t, d, e)
}

func mul(t *testing.T, a, b limbs) limbs {
	t.Helper()
	p, e := nat.Mul(a, b)
	return must(t, p, e)
}

func divMod(t *testing.T, a, b limbs) (q, r limbs) {
	t.Helper()
	q, r, e := nat.DivMod(a, b)
	return must(t, q, e), r
}

func expMod(t *testing.T, b, e, m limbs) limbs {
	t.Helper()
	x, err := nat.ExpMod(b, e, m)
	return must(t, x, err)
}
