package nat_test

import (
	"math"
	"math/big"
	"math/rand"
	"slices"
	"testing"

	"chirograph/api"
	"chirograph/nat"
)

// P1.1

func TestTrim(t *testing.T) {
	for _, c := range []struct{ a, want limbs }{
		{nil, nil},
		{limbs{0}, nil},
		{limbs{0, 0, 0}, nil},
		{limbs{5}, limbs{5}},
		{limbs{5, 0}, limbs{5}},
		{limbs{0, 5, 0, 0}, limbs{0, 5}},
		{padded(limbs{7}, 2*api.MaxLimbs), limbs{7}},
		{full(api.MaxLimbs + 1), full(api.MaxLimbs + 1)},
	} {
		if got := nat.Trim(c.a); !slices.Equal(got, c.want) {
			t.Errorf("Trim(%v) = %v, wanted %v", c.a, got, c.want)
		}
	}
}

func TestBits(t *testing.T) {
	for _, c := range []struct {
		a    limbs
		want int
	}{
		{nil, 0},
		{limbs{0, 0}, 0},
		{limbs{1}, 1},
		{limbs{2}, 2},
		{limbs{3}, 2},
		{limbs{1 << 31}, 32},
		{limbs{top}, 32},
		{limbs{0, 1}, 33},
		{limbs{0, 2, 0}, 34},
		{unit(api.MaxLimbs), 32*api.MaxLimbs + 1},
		{padded(full(api.MaxLimbs), 9), 32 * api.MaxLimbs},
	} {
		if got := nat.Bits(c.a); got != c.want {
			t.Errorf("Bits(%v) = %d, wanted %d", c.a, got, c.want)
		}
	}
}

func TestCmp(t *testing.T) {
	for _, c := range []struct {
		a, b limbs
		want int
	}{
		{nil, nil, 0},
		{nil, limbs{0, 0}, 0},
		{limbs{1, 0}, limbs{1}, 0},
		{nil, limbs{1}, -1},
		{limbs{1}, limbs{2}, -1},
		{limbs{top}, limbs{0, 1}, -1},
		{limbs{9, 1}, limbs{1, 2}, -1},
		{limbs{1, 5, 7}, limbs{2, 5, 7, 0}, -1},
		{limbs{9, 0, 0, 0}, limbs{0, 1}, -1},
		{full(api.MaxLimbs), unit(api.MaxLimbs), -1},
		{padded(limbs{3}, 2*api.MaxLimbs), limbs{3}, 0},
		{limbs{1 << 31}, limbs{1<<31 - 1}, 1},
	} {
		if got := nat.Cmp(c.a, c.b); got != c.want {
			t.Errorf("Cmp(%v, %v) = %d, wanted %d", c.a, c.b, got, c.want)
		}
		if got := nat.Cmp(c.b, c.a); got != -c.want {
			t.Errorf("Cmp(%v, %v) = %d, wanted %d", c.b, c.a, got, -c.want)
		}
	}
}

func TestCmpAgainstLibrary(t *testing.T) {
	r := rand.New(rand.NewSource(1))
	for range 2000 {
		a, b := some(r, r.Intn(4)), some(r, r.Intn(4))
		if got := nat.Cmp(a, b); got != big1(a).Cmp(big1(b)) {
			t.Errorf("Cmp(%v, %v) = %d", a, b, got)
		}
	}
}

func TestSmall(t *testing.T) {
	for _, c := range []struct {
		n    uint64
		want limbs
	}{
		{0, nil},
		{1, limbs{1}},
		{top, limbs{top}},
		{1 << 32, limbs{0, 1}},
		{1<<33 + 5, limbs{5, 2}},
		{math.MaxUint64, limbs{top, top}},
	} {
		if got := nat.Small(c.n); !slices.Equal(got, c.want) {
			t.Errorf("Small(%d) = %v, wanted %v", c.n, got, c.want)
		}
	}
}

// P1.2

func TestAdd(t *testing.T) {
	for _, c := range []struct{ a, b, want limbs }{
		{nil, nil, nil},
		{limbs{0, 0}, limbs{0}, nil},
		{limbs{1}, nil, limbs{1}},
		{limbs{top}, limbs{1}, limbs{0, 1}},
		{limbs{1, 0, 0}, limbs{2}, limbs{3}},
		{limbs{top, top, 4}, limbs{1}, limbs{0, 0, 5}},
		{limbs{top, top, top}, limbs{1}, limbs{0, 0, 0, 1}},
		{limbs{top, top}, limbs{top, top}, limbs{top - 1, top, 1}},
		{full(api.MaxLimbs - 1), limbs{1}, unit(api.MaxLimbs - 1)},
		{full(api.MaxLimbs), make(limbs, api.MaxLimbs), full(api.MaxLimbs)},
	} {
		s, e := nat.Add(c.a, c.b)
		want(t, "Add", s, e, c.want)
		s, e = nat.Add(c.b, c.a)
		want(t, "Add turned about", s, e, c.want)
	}
}

func TestAddTooLong(t *testing.T) {
	s, e := nat.Add(full(api.MaxLimbs), limbs{1})
	wantError(t, "a sum of 513 limbs", s, e, api.ErrLong)
	s, e = nat.Add(full(api.MaxLimbs), full(api.MaxLimbs))
	wantError(t, "a greater one", s, e, api.ErrLong)
}

func TestSub(t *testing.T) {
	for _, c := range []struct{ a, b, want limbs }{
		{nil, nil, nil},
		{limbs{0, 1}, limbs{1}, limbs{top}},
		{limbs{0, 1}, limbs{1, 0}, limbs{top}},
		{limbs{5, 0, 0}, limbs{5}, nil},
		{limbs{5}, limbs{5, 0, 0}, nil},
		{limbs{0, 0, 0, 1}, limbs{1}, limbs{top, top, top}},
		{limbs{0, 0, 2}, limbs{1, 0, 1}, limbs{top, top}},
		{limbs{7, 3}, nil, limbs{7, 3}},
		{unit(api.MaxLimbs - 1), limbs{1}, full(api.MaxLimbs - 1)},
		{full(api.MaxLimbs), full(api.MaxLimbs), nil},
	} {
		d, e := nat.Sub(c.a, c.b)
		want(t, "Sub", d, e, c.want)
	}
}

func TestSubUnder(t *testing.T) {
	for _, c := range []struct{ a, b limbs }{
		{nil, limbs{1}},
		{limbs{1}, limbs{2}},
		{limbs{top, 0, 0}, limbs{0, 1}},
		{full(api.MaxLimbs - 1), unit(api.MaxLimbs - 1)},
	} {
		d, e := nat.Sub(c.a, c.b)
		wantError(t, "Sub", d, e, api.ErrUnder)
	}
}

func TestMul(t *testing.T) {
	for _, c := range []struct{ a, b, want limbs }{
		{nil, nil, nil},
		{limbs{0, 0}, limbs{7}, nil},
		{limbs{1}, limbs{7, 8, 0}, limbs{7, 8}},
		{limbs{0, 1}, limbs{0, 1}, limbs{0, 0, 1}},
		{limbs{top}, limbs{top}, limbs{1, top - 1}},
		{limbs{top, top}, limbs{top}, limbs{1, top, top - 1}},
		{unit(api.MaxModulus), unit(api.MaxModulus - 1), unit(api.MaxLimbs - 1)},
		{full(api.MaxLimbs), limbs{1}, full(api.MaxLimbs)},
		{full(api.MaxLimbs), make(limbs, api.MaxLimbs), nil},
	} {
		p, e := nat.Mul(c.a, c.b)
		want(t, "Mul", p, e, c.want)
		p, e = nat.Mul(c.b, c.a)
		want(t, "Mul turned about", p, e, c.want)
	}
}

func TestMulLongest(t *testing.T) {
	a := full(api.MaxModulus)
	p, e := nat.Mul(a, a)
	want(t, "256 limbs squared", p, e, list(new(big.Int).Mul(big1(a), big1(a))))
	p, e = nat.Mul(unit(api.MaxModulus), unit(api.MaxModulus))
	wantError(t, "a product of 513 limbs", p, e, api.ErrLong)
	p, e = nat.Mul(full(api.MaxLimbs), limbs{2})
	wantError(t, "twice the greatest", p, e, api.ErrLong)
	p, e = nat.Mul(full(api.MaxLimbs), full(api.MaxLimbs))
	wantError(t, "the greatest squared", p, e, api.ErrLong)
}

func TestSumsAgainstLibrary(t *testing.T) {
	r := rand.New(rand.NewSource(2))
	for range 3000 {
		a, b := some(r, r.Intn(40)), some(r, r.Intn(40))
		s, e := nat.Add(a, b)
		want(t, "Add", s, e, list(new(big.Int).Add(big1(a), big1(b))))
		p, e := nat.Mul(a, b)
		want(t, "Mul", p, e, list(new(big.Int).Mul(big1(a), big1(b))))
		d, e := nat.Sub(a, b)
		if big1(a).Cmp(big1(b)) < 0 {
			wantError(t, "Sub", d, e, api.ErrUnder)
		} else {
			want(t, "Sub", d, e, list(new(big.Int).Sub(big1(a), big1(b))))
		}
	}
}

// P1.6

func TestFromBytes(t *testing.T) {
	for _, c := range []struct {
		b    []byte
		want limbs
	}{
		{nil, nil},
		{[]byte{0, 0, 0, 0, 0, 0}, nil},
		{[]byte{1}, limbs{1}},
		{[]byte{1, 2, 3, 4}, limbs{0x01020304}},
		{[]byte{1, 0, 0, 0, 0}, limbs{0, 1}},
		{[]byte{0, 0, 0xff, 0xfe, 0xfd, 0xfc, 0xfb, 0xfa}, limbs{0xfdfcfbfa, 0xfffe}},
		{slices.Repeat([]byte{255}, 4*api.MaxLimbs), full(api.MaxLimbs)},
		{make([]byte, 4*api.MaxLimbs), nil},
	} {
		a, e := nat.FromBytes(c.b)
		want(t, "FromBytes", a, e, c.want)
	}
	a, e := nat.FromBytes(make([]byte, 4*api.MaxLimbs+1))
	wantError(t, "2049 bytes", a, e, api.ErrLong)
}

func TestBytes(t *testing.T) {
	for _, c := range []struct {
		a    limbs
		n    int
		want []byte
	}{
		{nil, 0, nil},
		{limbs{0, 0}, 0, nil},
		{nil, 3, []byte{0, 0, 0}},
		{limbs{258}, 3, []byte{0, 1, 2}},
		{limbs{258}, 2, []byte{1, 2}},
		{limbs{258, 0, 0}, 2, []byte{1, 2}},
		{limbs{0, 1}, 5, []byte{1, 0, 0, 0, 0}},
		{limbs{0xfdfcfbfa, 0xfffe}, 6, []byte{0xff, 0xfe, 0xfd, 0xfc, 0xfb, 0xfa}},
		{limbs{0xfdfcfbfa, 0xfffe}, 9, []byte{0, 0, 0, 0xff, 0xfe, 0xfd, 0xfc, 0xfb, 0xfa}},
		{full(api.MaxLimbs), 4 * api.MaxLimbs, slices.Repeat([]byte{255}, 4*api.MaxLimbs)},
		{nil, 4 * api.MaxLimbs, make([]byte, 4*api.MaxLimbs)},
	} {
		b, e := nat.Bytes(c.a, c.n)
		if e != api.OK || !slices.Equal(b, c.want) {
			t.Errorf("Bytes(%v, %d) = %v, error %d; wanted %v", c.a, c.n, b, e, c.want)
		}
	}
}

func TestBytesWrong(t *testing.T) {
	for _, c := range []struct {
		a    limbs
		n    int
		want api.Errno
	}{
		{nil, -1, api.ErrArg},
		{nil, math.MinInt, api.ErrArg},
		{nil, 4*api.MaxLimbs + 1, api.ErrArg},
		{nil, math.MaxInt, api.ErrArg},
		{limbs{1}, 0, api.ErrLong},
		{limbs{256}, 1, api.ErrLong},
		{limbs{0, 1}, 4, api.ErrLong},
		{full(api.MaxLimbs), 4*api.MaxLimbs - 1, api.ErrLong},
		{make(limbs, api.MaxLimbs+1), 5, api.ErrLong},
		// The first error: the list's, then n's, then the value's.
		{make(limbs, api.MaxLimbs+1), -1, api.ErrLong},
		{make(limbs, api.MaxLimbs+1), 4*api.MaxLimbs + 1, api.ErrLong},
		{limbs{1}, -1, api.ErrArg},
		{full(api.MaxLimbs), 4*api.MaxLimbs + 1, api.ErrArg},
	} {
		b, e := nat.Bytes(c.a, c.n)
		if e != c.want || len(b) != 0 {
			t.Errorf("Bytes(%d limbs, %d): %v, error %d; wanted error %d", len(c.a), c.n, b, e, c.want)
		}
	}
}
