package curve_test

import (
	"crypto/elliptic"
	"math/big"
	"math/rand"
	"slices"
	"testing"

	"chirograph/api"
	"chirograph/curve"
)

func library(c int) elliptic.Curve {
	if c == api.P256 {
		return elliptic.P256()
	}
	return elliptic.P384()
}

// P9.1

func TestNumbers(t *testing.T) {
	for _, c := range curves {
		m := modelOf(c)
		if n := curve.Size(c); n != m.size {
			t.Errorf("curve %d: Size %d", c, n)
		}
		if !slices.Equal(curve.Prime(c), list(m.p)) {
			t.Errorf("curve %d: Prime %x", c, curve.Prime(c))
		}
		if !slices.Equal(curve.Order(c), list(m.n)) {
			t.Errorf("curve %d: Order %x", c, curve.Order(c))
		}
		if !isPoint(curve.Base(c), m.base()) {
			t.Errorf("curve %d: Base %x", c, curve.Base(c))
		}
		asked := library(c).Params()
		if m.p.Cmp(asked.P) != 0 || m.n.Cmp(asked.N) != 0 || m.b.Cmp(asked.B) != 0 || m.gx.Cmp(asked.Gx) != 0 || m.gy.Cmp(asked.Gy) != 0 {
			t.Errorf("curve %d: the tests have other numbers than the library", c)
		}
	}
}

func TestNumbersOfNoCurve(t *testing.T) {
	for _, c := range noCurves {
		p := curve.Base(c)
		if curve.Size(c) != 0 || len(curve.Prime(c)) != 0 || len(curve.Order(c)) != 0 || len(p.X)+len(p.Y) != 0 {
			t.Errorf("curve %d: Size %d, Prime %x, Order %x, Base %x", c, curve.Size(c), curve.Prime(c), curve.Order(c), p)
		}
	}
}

// P9.2

func wantOn(t *testing.T, c int, p api.Point, asked bool) {
	t.Helper()
	if modelOf(c).on(p) != asked {
		t.Errorf("curve %d: the model has another mind of %x", c, p)
	}
	for _, q := range []api.Point{p, long(p, len(p.X)+len(p.Y)+1), long(p, api.MaxLimbs+1), {X: padded(p.X, 3000), Y: p.Y}, {X: p.X, Y: padded(p.Y, 3000)}} {
		if curve.On(c, q) != asked {
			t.Errorf("On(%d, %x), in %d limbs: %v", c, p, len(q.X), !asked)
		}
	}
}

// offset is p with so much added to its coordinates.
func offset(p api.Point, x, y *big.Int) api.Point {
	return point(new(big.Int).Add(x, value(p.X)), new(big.Int).Add(y, value(p.Y)))
}

func TestOn(t *testing.T) {
	r := rand.New(rand.NewSource(91))
	for _, c := range curves {
		m := modelOf(c)
		wantOn(t, c, m.base(), true)
		for k := -20; k < 20; k++ {
			wantOn(t, c, m.times(k), true)
		}
		for _, p := range m.edges() {
			wantOn(t, c, p, true)
		}
		for range 50 {
			wantOn(t, c, m.some(r), true)
		}
	}
}

// The far point is of each curve, however it is written.
func TestFarPointIsOn(t *testing.T) {
	for _, c := range curves {
		for _, n := range []int{0, 1, 8, 12, 64, 65, 512, 513, 5000} {
			wantOn(t, c, long(api.Point{}, n), true)
		}
		wantOn(t, c, api.Point{X: limbs{0}}, true)
		wantOn(t, c, api.Point{Y: limbs{0, 0}}, true)
	}
}

// What has the same rest modulo the prime is no coordinate, nor is the prime.
func TestNotBelowThePrime(t *testing.T) {
	for _, c := range curves {
		m := modelOf(c)
		for _, p := range append(m.edges(), m.base(), api.Point{}) {
			for _, times := range []int64{1, 2, 1 << 40} {
				more := new(big.Int).Mul(m.p, big.NewInt(times))
				wantOn(t, c, offset(p, more, new(big.Int)), false)
				wantOn(t, c, offset(p, new(big.Int), more), false)
				wantOn(t, c, offset(p, more, more), false)
			}
			high := new(big.Int).Lsh(m.p, 32*600)
			wantOn(t, c, offset(p, high, new(big.Int)), false)
		}
	}
}

func TestNotOn(t *testing.T) {
	r := rand.New(rand.NewSource(92))
	one := big.NewInt(1)
	for _, c := range curves {
		m := modelOf(c)
		for _, p := range append(m.edges(), m.base(), m.some(r)) {
			x, y := value(p.X), value(p.Y)
			wantOn(t, c, point(x, new(big.Int).Add(y, one)), false)
			wantOn(t, c, point(new(big.Int).Add(x, one), y), false)
			wantOn(t, c, point(y, x), false)
			far := x.Sign() == 0 // then what is left is the far point
			wantOn(t, c, point(x, new(big.Int)), far)
			wantOn(t, c, point(new(big.Int), x), far)
			for i := range 8 * m.size {
				bit := new(big.Int).Lsh(one, uint(i))
				wantNotOn(t, c, point(bit.Xor(bit, x), y))
				bit = new(big.Int).Lsh(one, uint(i))
				wantNotOn(t, c, point(x, bit.Xor(bit, y)))
			}
		}
		for range 50 {
			wantOn(t, c, point(new(big.Int).Rand(r, m.p), new(big.Int).Rand(r, m.p)), false)
		}
	}
}

func wantNotOn(t *testing.T, c int, p api.Point) {
	t.Helper()
	if curve.On(c, p) {
		t.Errorf("On(%d, %x)", c, p)
	}
}

// A point of one curve is not of the other, nor of any that there is not; only
// the far one is of both.
func TestOnOtherCurves(t *testing.T) {
	wantOn(t, api.P256, modelOf(api.P384).base(), false)
	wantOn(t, api.P384, modelOf(api.P256).base(), false)
	for _, c := range noCurves {
		for _, p := range []api.Point{{}, modelOf(api.P256).base(), modelOf(api.P384).base(), {X: limbs{0}, Y: limbs{0}}, {X: limbs{1}}} {
			wantNotOn(t, c, p)
		}
	}
}

// All that differs is b: such a point has a sum as well, but of another curve.
func TestOnAnotherB(t *testing.T) {
	r := rand.New(rand.NewSource(93))
	for _, c := range curves {
		m := modelOf(c)
		for range 20 {
			other := m
			other.b = new(big.Int).Rand(r, m.p)
			wantOn(t, c, other.some(r), false)
		}
	}
}
