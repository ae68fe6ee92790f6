package curve_test

import (
	"math/big"
	"math/rand"
	"testing"

	"chirograph/api"
	"chirograph/curve"
)

// P9.5

func alike(t *testing.T, what string, p, q api.Point) {
	t.Helper()
	if !isPoint(p, q) {
		t.Errorf("%s: %x, %x", what, p, q)
	}
}

// few are points of all kinds, among which sums often meet.
func few(m model, r *rand.Rand) []api.Point {
	return []api.Point{{}, m.base(), m.times(-1), m.times(2), m.times(3), m.edges()[0], m.edges()[1], m.lowest()[1], m.some(r), m.some(r)}
}

func TestPointsAreAGroup(t *testing.T) {
	r := rand.New(rand.NewSource(911))
	for _, c := range curves {
		l := few(modelOf(c), r)
		for _, p := range l {
			alike(t, "with the far point", add(t, c, p, api.Point{}), p)
			alike(t, "with the far point", add(t, c, api.Point{}, p), p)
			alike(t, "with its Neg", add(t, c, p, neg(t, c, p)), api.Point{})
			alike(t, "with its Neg", add(t, c, neg(t, c, p), p), api.Point{})
			alike(t, "Neg of Neg", neg(t, c, neg(t, c, p)), p)
			for _, q := range l {
				pq := add(t, c, p, q)
				alike(t, "turned about", pq, add(t, c, q, p))
				if !curve.On(c, pq) {
					t.Errorf("a sum that is not On: %x", pq)
				}
				for _, s := range l {
					alike(t, "bracketed", add(t, c, pq, s), add(t, c, p, add(t, c, q, s)))
				}
			}
		}
	}
}

func TestOrderTimesAnyPoint(t *testing.T) {
	r := rand.New(rand.NewSource(912))
	for _, c := range curves {
		m := modelOf(c)
		for _, p := range append(few(m, r), m.edges()...) {
			alike(t, "Order times a point", mul(t, c, curve.Order(c), p), api.Point{})
			less := list(new(big.Int).Sub(m.n, big.NewInt(1)))
			alike(t, "once less", mul(t, c, less, p), neg(t, c, p))
			more := list(new(big.Int).Add(m.n, big.NewInt(1)))
			alike(t, "once more", mul(t, c, more, p), p)
			alike(t, "Order in both parts", mix(t, c, curve.Order(c), curve.Order(c), p), api.Point{})
		}
	}
}

func TestMulGoesIntoSums(t *testing.T) {
	r := rand.New(rand.NewSource(913))
	for _, c := range curves {
		m := modelOf(c)
		for range 25 {
			p, q := m.some(r), m.some(r)
			a, b := factor(r, 30), factor(r, 30)
			ap, bp := mul(t, c, a, p), mul(t, c, b, p)
			alike(t, "of points", mul(t, c, a, add(t, c, p, q)), add(t, c, ap, mul(t, c, a, q)))
			sum := list(new(big.Int).Add(value(a), value(b)))
			alike(t, "of numbers", mul(t, c, sum, p), add(t, c, ap, bp))
			product := list(new(big.Int).Mul(value(a), value(b)))
			alike(t, "of sums", mul(t, c, product, p), mul(t, c, a, bp))
			alike(t, "of Negs", mul(t, c, a, neg(t, c, p)), neg(t, c, ap))
			alike(t, "Mix", mix(t, c, a, b, p), add(t, c, mul(t, c, a, curve.Base(c)), bp))
		}
	}
}

// P9.6

func TestBytesAndParseUndoOneAnother(t *testing.T) {
	r := rand.New(rand.NewSource(914))
	for _, c := range curves {
		for range 100 {
			p := modelOf(c).some(r)
			b, e := curve.Bytes(c, p)
			if e != api.OK || len(b) != 1+2*curve.Size(c) {
				t.Fatalf("Bytes: %x, error %d", b, e)
			}
			q, e := curve.Parse(c, b)
			want(t, "Parse of Bytes", q, e, p)
			again, e := curve.Bytes(c, q)
			wantBytes(t, "Bytes of Parse", again, e, b)
		}
	}
}
