package ecdsa_test

import (
	"math/big"
	"math/rand"
	"slices"
	"testing"

	"chirograph/api"
	"chirograph/ecdsa"
)

// P10.1

// noKeys are points that may be no key: not of the curve, or the far one.
func noKeys(c int) []api.Point {
	p := prime(c)
	g := library(c).Params()
	other := library(3 - c).Params()
	return []api.Point{
		{}, long(api.Point{}, 1), long(api.Point{}, 8), long(api.Point{}, 12), long(api.Point{}, 600), {X: limbs{0}}, {Y: limbs{0, 0}},
		point(other.Gx, other.Gy), point(g.Gy, g.Gx), point(g.Gx, new(big.Int)), point(new(big.Int), g.Gy), point(g.Gx, new(big.Int).Add(g.Gy, one)),
		point(p, new(big.Int)), point(new(big.Int), p), point(p, p),
		point(new(big.Int).Add(g.Gx, p), g.Gy), point(g.Gx, new(big.Int).Add(g.Gy, p)), point(new(big.Int).Add(g.Gx, p), new(big.Int).Add(g.Gy, p)),
		{X: limbs{1}}, {Y: limbs{1}}, {X: limbs{1}, Y: limbs{1}}, {X: full(600), Y: full(600)}, {X: append(make(limbs, 600), 1)},
	}
}

func TestKey(t *testing.T) {
	r := rand.New(rand.NewSource(101))
	for _, c := range curves {
		l := []api.Point{base(c, one), base(c, big.NewInt(2)), base(c, new(big.Int).Sub(order(c), one))}
		for range 30 {
			l = append(l, base(c, factor(r, c)))
		}
		for x := range int64(30) {
			for _, v := range []*big.Int{big.NewInt(x), new(big.Int).Sub(prime(c), big.NewInt(x+1)), new(big.Int).Add(order(c), big.NewInt(x))} {
				if p, ok := lifted(c, v); ok {
					l = append(l, p, negated(c, p))
				}
			}
		}
		for _, p := range l {
			for _, n := range []int{0, 12, 13, 64, 65, 512, 513, 3000} {
				wantKey(t, c, long(p, n), api.OK)
			}
			wantKey(t, 3-c, p, api.ErrKey)
		}
	}
}

func TestNoKey(t *testing.T) {
	for _, c := range curves {
		for _, p := range noKeys(c) {
			wantKey(t, c, p, api.ErrKey)
		}
	}
}

// No such curve: that is told of whatever point.
func TestKeyOfNoCurve(t *testing.T) {
	for _, c := range noCurves {
		for _, d := range curves {
			for _, p := range append(noKeys(d), base(d, one)) {
				wantKey(t, c, p, api.ErrArg)
			}
		}
	}
}

func wantNumber(t *testing.T, c int, sum []byte, asked limbs) {
	t.Helper()
	if n := ecdsa.Number(c, sum); !slices.Equal(n, asked) {
		t.Errorf("Number(%d, %x): %x; wanted %x", c, short(sum), n, asked)
	}
}

func TestNumber(t *testing.T) {
	r := rand.New(rand.NewSource(102))
	for _, c := range curves {
		for n := range 130 {
			for _, sum := range [][]byte{some(r, n), make([]byte, n), slices.Repeat([]byte{0xff}, n), slices.Repeat([]byte{1}, n)} {
				wantNumber(t, c, sum, list(number(c, sum)))
				wantNumber(t, c, append(make([]byte, 5), sum...), list(number(c, append(make([]byte, 5), sum...))))
			}
		}
		far := some(r, 100000)
		wantNumber(t, c, far, list(new(big.Int).SetBytes(far[:size(c)])))
		wantNumber(t, c, nil, nil)
		wantNumber(t, c, []byte{0x12, 0x34, 0x56, 0x78, 0x9a}, limbs{0x3456789a, 0x12})
	}
	wantNumber(t, api.P256, slices.Repeat([]byte{1}, 33), slices.Repeat(limbs{0x01010101}, 8))
	wantNumber(t, api.P384, slices.Repeat([]byte{1}, 49), slices.Repeat(limbs{0x01010101}, 12))
	wantNumber(t, api.P384, slices.Repeat([]byte{1}, 33), append(slices.Repeat(limbs{0x01010101}, 8), 1))
}

// What is above the order is not cut here.
func TestNumberAboveTheOrder(t *testing.T) {
	for _, c := range curves {
		for _, v := range []*big.Int{order(c), new(big.Int).Add(order(c), one), prime(c)} {
			wantNumber(t, c, sumOf(c, v), list(v))
		}
	}
}

func TestNumberOfNoCurve(t *testing.T) {
	for _, c := range noCurves {
		for _, n := range []int{0, 1, 20, 32, 48, 64, 5000} {
			wantNumber(t, c, slices.Repeat([]byte{7}, n), nil)
		}
	}
}
