package curve_test

import (
	"math/rand"
	"slices"
	"testing"

	"chirograph/api"
	"chirograph/curve"
)

func whole[T any](l []T) []T {
	return l[:cap(l)]
}

// roomy is l in other memory, with spare room in which something stands.
func roomy[T byte | uint32](l []T) []T {
	return append(slices.Clone(l), 11, 12, 13, 14, 15, 16, 17)[:len(l)]
}

func scribble[T byte | uint32](l []T) {
	for i := range whole(l) {
		whole(l)[i] ^= 0xff
	}
}

func roomyPoint(p api.Point) api.Point {
	return api.Point{X: roomy(p.X), Y: roomy(p.Y)}
}

// numbers are all lists of limbs that the calls answer of these arguments.
func numbers(c int, a, b limbs, p, q api.Point, bytes []byte) []limbs {
	base := curve.Base(c)
	l := []limbs{curve.Prime(c), curve.Order(c), base.X, base.Y}
	parsed, _ := curve.Parse(c, bytes)
	l = append(l, parsed.X, parsed.Y)
	for _, call := range calls {
		for _, points := range [][]api.Point{{p, q}, {q, p}, {p, {}}, {{}, q}, {p, p}} {
			sum, _ := call.call(c, []limbs{a, b}, points)
			l = append(l, sum.X, sum.Y)
		}
	}
	return l
}

// The rule of memory: what is handed in stays as it is, spare room too, and
// spare room plays no part.
func TestArgumentsStay(t *testing.T) {
	r := rand.New(rand.NewSource(915))
	for _, c := range curves {
		m := modelOf(c)
		for _, n := range []int{0, 20, 600} {
			p, q := roomyPoint(long(m.some(r), n)), roomyPoint(long(m.edges()[2], n))
			a, b, bytes := roomy(padded(factor(r, 9), 12)), roomy(limbs{1}), roomy(m.bytes(p))
			was := [][]uint32{}
			lists := []limbs{p.X, p.Y, q.X, q.Y, a, b}
			for _, l := range lists {
				was = append(was, slices.Clone(whole(l)))
			}
			wasBytes := slices.Clone(whole(bytes))
			for _, l := range numbers(c, a, b, p, q, bytes) {
				scribble(l)
			}
			laid, e := curve.Bytes(c, p)
			wantBytes(t, "Bytes", laid, e, bytes)
			scribble(laid)
			if !curve.On(c, p) || !curve.On(c, q) {
				t.Errorf("curve %d: a point is not On", c)
			}
			for i, l := range lists {
				if !slices.Equal(whole(l), was[i]) {
					t.Errorf("curve %d: list %d was changed", c, i)
				}
			}
			if !slices.Equal(whole(bytes), wasBytes) {
				t.Errorf("curve %d: bytes were changed", c)
			}
		}
	}
}

// Each list that is answered is memory of its own: it stays as it is when
// another does not, of the same answer or of a later one.
func TestAnswersStandApart(t *testing.T) {
	r := rand.New(rand.NewSource(916))
	for _, c := range curves {
		m := modelOf(c)
		p, q := m.some(r), m.edges()[0]
		for _, a := range []limbs{nil, {1}, {7, 7, 7, 7, 7, 7, 7, 7}} {
			all := numbers(c, a, limbs{1}, p, q, m.bytes(p))
			again := numbers(c, a, limbs{1}, p, q, m.bytes(p))
			lists := append(all, again...)
			var was []limbs
			for _, l := range lists {
				was = append(was, slices.Clone(l))
			}
			for i, l := range lists {
				if i < len(all) && !slices.Equal(was[i], was[i+len(all)]) {
					t.Errorf("curve %d: two answers to one question: %x, %x", c, was[i], was[i+len(all)])
				}
				scribble(l)
				for j := i + 1; j < len(lists); j++ {
					if !slices.Equal(lists[j], was[j]) {
						t.Fatalf("curve %d: list %d shares memory with list %d", c, j, i)
					}
				}
			}
			one, _ := curve.Bytes(c, p)
			two, _ := curve.Bytes(c, p)
			scribble(one)
			wantBytes(t, "Bytes", two, api.OK, m.bytes(p))
		}
	}
}

// What was answered before is kept nowhere: a base that is scribbled on is
// answered anew.
func TestNothingIsKept(t *testing.T) {
	for _, c := range curves {
		m := modelOf(c)
		for range 3 {
			g := curve.Base(c)
			want(t, "Base", g, api.OK, m.base())
			want(t, "Mix", mix(t, c, limbs{2}, limbs{3}, g), api.OK, m.times(5))
			for _, l := range []limbs{g.X, g.Y, curve.Prime(c), curve.Order(c)} {
				scribble(l)
			}
		}
	}
}

// Nil and empty lists are alike, and both are the number 0.
func TestNilAndEmpty(t *testing.T) {
	for _, c := range curves {
		m := modelOf(c)
		zero := m.edges()[0] // its X is 0
		for _, none := range []limbs{nil, {}, {0}} {
			far := api.Point{X: none, Y: none}
			p := api.Point{X: none, Y: zero.Y}
			if !curve.On(c, far) || !curve.On(c, p) {
				t.Errorf("curve %d: a point is not On", c)
			}
			alike(t, "Neg", neg(t, c, far), api.Point{})
			alike(t, "Neg", neg(t, c, p), m.neg(zero))
			alike(t, "Add", add(t, c, far, p), zero)
			alike(t, "Add", add(t, c, p, far), zero)
			alike(t, "Mul", mul(t, c, none, p), api.Point{})
			alike(t, "Mul", mul(t, c, limbs{5}, far), api.Point{})
			alike(t, "Mix", mix(t, c, limbs{5}, none, p), m.times(5))
			alike(t, "Mix", mix(t, c, none, limbs{1}, p), zero)
			b, e := curve.Bytes(c, p)
			wantBytes(t, "Bytes", b, e, m.bytes(zero))
			b, e = curve.Bytes(c, far)
			wantNoBytes(t, "Bytes of the far point", b, e, api.ErrPoint)
		}
		wantNoParse(t, c, nil, api.ErrForm)
		wantNoParse(t, c, []byte{}, api.ErrForm)
	}
}

// One list handed in as several arguments is like several that are alike.
func TestSameListTwice(t *testing.T) {
	for _, c := range curves {
		m := modelOf(c)
		p := m.times(3)
		k := limbs{4}
		alike(t, "Add", add(t, c, p, p), m.times(6))
		alike(t, "Mix", mix(t, c, k, k, p), m.times(16))
		alike(t, "Mul", mul(t, c, p.X, p), m.mul(value(p.X), p))
		alike(t, "Mix", mix(t, c, p.X, p.Y, p), m.add(m.mul(value(p.X), m.base()), m.mul(value(p.Y), p)))
		same := limbs{1}
		wantNotOn(t, c, api.Point{X: same, Y: same})
	}
}
