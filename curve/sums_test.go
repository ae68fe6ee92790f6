package curve_test

import (
	"math/big"
	"math/rand"
	"slices"
	"testing"

	"chirograph/api"
	"chirograph/curve"
)

// P9.3

func TestExamples(t *testing.T) {
	g := curve.Base(api.P256)
	p, e := curve.Mul(api.P256, limbs{2}, g)
	want(t, "twice the base", p, e, point(
		hexed("7cf27b188d034f7e8a52380304b51ac3c08969e277f21b35a60b48fc47669978"),
		hexed("07775510db8ed040293d9ac69f7430dbba7dade63ce982299e04b79d227873d1")))
	p, e = curve.Add(api.P256, g, neg(t, api.P256, g))
	want(t, "the base and its Neg", p, e, api.Point{})
	p, e = curve.Parse(api.P256, append([]byte{2}, make([]byte, 64)...))
	wantNone(t, "Parse of another first byte", p, e, api.ErrForm)
}

// calls are all that make sums of points, each handed as many as it takes.
var calls = []struct {
	name    string
	factors int
	points  int
	call    func(c int, k []limbs, p []api.Point) (api.Point, api.Errno)
}{
	{"Neg", 0, 1, func(c int, k []limbs, p []api.Point) (api.Point, api.Errno) { return curve.Neg(c, p[0]) }},
	{"Add", 0, 2, func(c int, k []limbs, p []api.Point) (api.Point, api.Errno) { return curve.Add(c, p[0], p[1]) }},
	{"Mul", 1, 1, func(c int, k []limbs, p []api.Point) (api.Point, api.Errno) { return curve.Mul(c, k[0], p[0]) }},
	{"Mix", 2, 1, func(c int, k []limbs, p []api.Point) (api.Point, api.Errno) { return curve.Mix(c, k[0], k[1], p[0]) }},
}

// wrongPoints are none of curve c.
func wrongPoints(c int) []api.Point {
	m, other := modelOf(c), modelOf(3-c)
	return []api.Point{
		other.base(), point(m.gy, m.gx), point(m.gx, new(big.Int)), point(new(big.Int), m.gy), point(m.p, new(big.Int)),
		point(new(big.Int), m.p), point(m.gx, new(big.Int).Add(m.gy, m.p)), point(new(big.Int).Add(m.gx, m.p), m.gy),
		{X: limbs{1}, Y: limbs{1}}, {X: limbs{1}}, {Y: limbs{1}}, {X: full(600), Y: full(600)}, {X: padded(nil, 600), Y: append(make(limbs, 600), 1)},
	}
}

// The first error: the curve's, a factor's, a point's; each alone, and with all
// that follow it.
func TestSumsWrong(t *testing.T) {
	over := []limbs{make(limbs, 65), padded(limbs{1}, 65), full(65), full(70000)}
	for _, a := range calls {
		for _, c := range curves {
			for at := range a.points {
				for _, p := range wrongPoints(c) {
					points := slices.Repeat([]api.Point{curve.Base(c)}, 2)
					points[at] = p
					for _, k := range []limbs{nil, {1}, full(64)} {
						sum, e := a.call(c, []limbs{k, k}, points)
						wantNone(t, a.name+" of no point", sum, e, api.ErrPoint)
					}
				}
			}
			for at := range a.factors {
				for _, k := range over {
					factors := []limbs{{1}, {1}}
					factors[at] = k
					for _, p := range append(wrongPoints(c), api.Point{}, curve.Base(c)) {
						sum, e := a.call(c, factors, []api.Point{p, p})
						wantNone(t, a.name+" of too many limbs", sum, e, api.ErrLong)
					}
				}
			}
		}
		for _, c := range noCurves {
			for _, k := range append(over, nil, limbs{1}) {
				for _, p := range []api.Point{{}, curve.Base(api.P256), curve.Base(api.P384), {X: limbs{1}}} {
					sum, e := a.call(c, []limbs{k, k}, []api.Point{p, p})
					wantNone(t, a.name+" of no curve", sum, e, api.ErrArg)
				}
			}
		}
	}
}

// spread are points of all kinds, the far one among them.
func spread(m model, r *rand.Rand) []api.Point {
	l := append(m.edges(), api.Point{})
	for k := range 6 {
		l = append(l, m.times(k+1), m.times(-k-1), m.some(r))
	}
	return l
}

func TestNeg(t *testing.T) {
	r := rand.New(rand.NewSource(94))
	for _, c := range curves {
		m := modelOf(c)
		for _, p := range spread(m, r) {
			for _, n := range []int{0, 20, 600} {
				sum, e := curve.Neg(c, long(p, n))
				want(t, "Neg", sum, e, m.neg(p))
			}
		}
	}
}

// Each point with each, in both orders: so with itself and its Neg, too.
func TestAdd(t *testing.T) {
	r := rand.New(rand.NewSource(95))
	for _, c := range curves {
		m := modelOf(c)
		l := spread(m, r)
		for _, p := range l {
			for _, q := range l {
				sum, e := curve.Add(c, p, q)
				want(t, "Add", sum, e, m.add(p, q))
			}
		}
		short := append(slices.Clone(l[:6]), api.Point{})
		for _, p := range short {
			for _, q := range short {
				sum, e := curve.Add(c, long(p, 600), long(q, 13))
				want(t, "Add of long lists", sum, e, m.add(p, q))
			}
		}
	}
}

// Points of the same Y, and of Ys that are each other's Neg, with other Xs: the
// line through them runs level, or is steep.
func TestAddOfLevelPoints(t *testing.T) {
	met := 0
	for _, c := range curves {
		m := modelOf(c)
		for k := range 40 {
			p := m.times(k + 1)
			for _, q := range m.level(p) {
				met++
				wantOn(t, c, q, true)
				for _, l := range [][2]api.Point{{p, q}, {q, p}, {p, m.neg(q)}, {m.neg(p), q}} {
					sum, e := curve.Add(c, l[0], l[1])
					want(t, "Add of level points", sum, e, m.add(l[0], l[1]))
				}
			}
		}
	}
	if met < 20 {
		t.Errorf("only %d points", met)
	}
}

// near are numbers around the order, its multiples, and powers of 2.
func near(m model) []*big.Int {
	var l []*big.Int
	for _, v := range []*big.Int{
		new(big.Int), m.n, new(big.Int).Lsh(m.n, 1), new(big.Int).Mul(m.n, m.n), new(big.Int).Rsh(m.n, 1), m.p,
		new(big.Int).Lsh(big.NewInt(1), 32), new(big.Int).Lsh(big.NewInt(1), 64), new(big.Int).Lsh(big.NewInt(1), uint(8*m.size)), new(big.Int).Lsh(big.NewInt(1), 2047),
	} {
		for d := int64(-3); d <= 3; d++ {
			if k := new(big.Int).Add(v, big.NewInt(d)); k.Sign() >= 0 {
				l = append(l, k)
			}
		}
	}
	return append(l, value(full(64)))
}

func TestMul(t *testing.T) {
	r := rand.New(rand.NewSource(96))
	for _, c := range curves {
		m := modelOf(c)
		for _, p := range []api.Point{m.base(), m.lowest()[0], {}} {
			for _, k := range near(m) {
				sum, e := curve.Mul(c, list(k), p)
				want(t, "Mul", sum, e, m.mul(k, p))
			}
		}
		for range 10 {
			k, p := factor(r, 64), m.some(r)
			asked := m.mul(value(k), p)
			sum, e := curve.Mul(c, k, p)
			want(t, "Mul", sum, e, asked)
			sum, e = curve.Mul(c, padded(k, 64), long(p, 600))
			want(t, "Mul of long lists", sum, e, asked)
		}
	}
}

func TestMulOfSmallNumbers(t *testing.T) {
	for _, c := range curves {
		m := modelOf(c)
		var asked api.Point
		for k := range uint32(200) {
			sum, e := curve.Mul(c, limbs{k}, m.base())
			want(t, "Mul", sum, e, asked)
			asked = m.add(asked, m.base())
		}
	}
}

func TestMulByZero(t *testing.T) {
	for _, c := range curves {
		for _, k := range []limbs{nil, {}, {0}, make(limbs, 8), make(limbs, 64)} {
			for _, p := range []api.Point{{}, curve.Base(c), long(api.Point{}, 20)} {
				sum, e := curve.Mul(c, k, p)
				want(t, "Mul by 0", sum, e, api.Point{})
			}
		}
	}
}

func TestMulAgainstLibrary(t *testing.T) {
	r := rand.New(rand.NewSource(97))
	for _, c := range curves {
		for range 60 {
			a, b := new(big.Int).Rand(r, library(c).Params().N), new(big.Int).Rand(r, library(c).Params().N)
			x, y := library(c).ScalarBaseMult(a.Bytes())
			p, e := curve.Mul(c, list(a), curve.Base(c))
			want(t, "times the base", p, e, point(x, y))
			twice, e := curve.Mul(c, list(b), p)
			bx, by := library(c).ScalarMult(x, y, b.Bytes())
			want(t, "times a point", twice, e, point(bx, by))
			sum, e := curve.Mix(c, list(a), list(b), p)
			sx, sy := library(c).Add(x, y, bx, by)
			want(t, "Mix", sum, e, point(sx, sy))
		}
	}
}

// All small numbers, with points that lie close together: on the way sums meet
// what is added, its Neg, and the far point.
func TestMixOfSmallNumbers(t *testing.T) {
	for _, c := range curves {
		m := modelOf(c)
		table := map[int]api.Point{}
		for k := -200; k <= 200; k++ {
			table[k] = m.times(k)
		}
		for j := -9; j <= 9; j++ {
			for a := range 18 {
				for b := range 18 {
					sum, e := curve.Mix(c, limbs{uint32(a)}, limbs{uint32(b)}, table[j])
					want(t, "Mix", sum, e, table[a+b*j])
				}
			}
		}
	}
}

func TestMix(t *testing.T) {
	r := rand.New(rand.NewSource(98))
	for _, c := range curves {
		m := modelOf(c)
		for range 10 {
			a, b, q := factor(r, 64), factor(r, 64), m.some(r)
			asked := m.add(m.mul(value(a), m.base()), m.mul(value(b), q))
			sum, e := curve.Mix(c, a, b, q)
			want(t, "Mix", sum, e, asked)
			sum, e = curve.Mix(c, padded(a, 64), padded(b, 64), long(q, 600))
			want(t, "Mix of long lists", sum, e, asked)
		}
		few := near(m)
		for i := 0; i < len(few); i += 3 {
			a, b, q := few[i], few[(i*7+3)%len(few)], m.some(r)
			sum, e := curve.Mix(c, list(a), list(b), q)
			want(t, "Mix", sum, e, m.add(m.mul(a, m.base()), m.mul(b, q)))
		}
	}
}

// Both parts are each other's Neg, or alike, or one of them is the far point.
func TestMixWhereBothMeet(t *testing.T) {
	r := rand.New(rand.NewSource(99))
	for _, c := range curves {
		m := modelOf(c)
		for range 10 {
			a, b := new(big.Int).Rand(r, m.n), new(big.Int).Rand(r, m.n)
			part := m.mul(a, m.base())
			inverse := new(big.Int).ModInverse(b, m.n)
			q := m.mul(inverse, part) // b times q is a times the base
			sum, e := curve.Mix(c, list(a), list(b), q)
			want(t, "parts that are alike", sum, e, m.add(part, part))
			sum, e = curve.Mix(c, list(a), list(b), m.neg(q))
			want(t, "parts that make the far point", sum, e, api.Point{})
			sum, e = curve.Mix(c, list(a), list(b), api.Point{})
			want(t, "no second part", sum, e, part)
			sum, e = curve.Mix(c, list(a), list(m.n), q)
			want(t, "the second part times the order", sum, e, part)
			sum, e = curve.Mix(c, list(m.n), list(b), q)
			want(t, "the first part times the order", sum, e, part)
			sum, e = curve.Mix(c, nil, nil, q)
			want(t, "no part", sum, e, api.Point{})
		}
	}
}
