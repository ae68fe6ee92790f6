package curve_test

import (
	"crypto/elliptic"
	"math/big"
	"math/rand"
	"slices"
	"testing"

	"chirograph/api"
	"chirograph/curve"
)

// P9.4, P9.6

// wantLaid asks that a point and its bytes are told of one another.
func wantLaid(t *testing.T, c int, p api.Point) {
	t.Helper()
	asked := modelOf(c).bytes(p)
	for _, n := range []int{0, 12, 13, 600} {
		b, e := curve.Bytes(c, long(p, n))
		wantBytes(t, "Bytes", b, e, asked)
	}
	q, e := curve.Parse(c, asked)
	want(t, "Parse", q, e, p)
}

func TestBytesAndParse(t *testing.T) {
	r := rand.New(rand.NewSource(910))
	for _, c := range curves {
		m := modelOf(c)
		wantLaid(t, c, m.base())
		for _, p := range m.edges() {
			wantLaid(t, c, p)
		}
		for range 100 {
			p := m.some(r)
			wantLaid(t, c, p)
			b, e := curve.Bytes(c, p)
			wantBytes(t, "Bytes beside the library's", b, e, elliptic.Marshal(library(c), value(p.X), value(p.Y)))
		}
	}
}

func TestBytesWrong(t *testing.T) {
	for _, c := range curves {
		for _, p := range append(wrongPoints(c), api.Point{}, long(api.Point{}, 8), long(api.Point{}, 600), api.Point{X: limbs{0}}) {
			b, e := curve.Bytes(c, p)
			wantNoBytes(t, "Bytes of no point", b, e, api.ErrPoint)
		}
	}
	for _, c := range noCurves {
		for _, p := range []api.Point{{}, {X: limbs{1}}, curve.Base(api.P256), curve.Base(api.P384)} {
			b, e := curve.Bytes(c, p)
			wantNoBytes(t, "Bytes of no curve", b, e, api.ErrArg)
		}
	}
}

func wantNoParse(t *testing.T, c int, b []byte, asked api.Errno) {
	t.Helper()
	p, e := curve.Parse(c, b)
	wantNone(t, "Parse", p, e, asked)
}

func TestParseOfOtherLengths(t *testing.T) {
	for _, c := range curves {
		right := modelOf(c).bytes(curve.Base(c))
		more := slices.Concat(right, right, make([]byte, 5000))
		for n := range len(more) {
			if n != len(right) {
				wantNoParse(t, c, more[:n], api.ErrForm)
			}
		}
		wantNoParse(t, c, modelOf(3-c).bytes(curve.Base(3-c)), api.ErrForm)
		wantNoParse(t, c, append([]byte{4}, right...), api.ErrForm)
		wantNoParse(t, c, make([]byte, 1<<20), api.ErrForm)
	}
}

// Only the byte 04 may be first; the form is asked ahead of the point.
func TestParseOfOtherFirstBytes(t *testing.T) {
	for _, c := range curves {
		m := modelOf(c)
		for first := range 256 {
			if first != 4 {
				wantNoParse(t, c, m.laid(byte(first), m.gx, m.gy), api.ErrForm)
				wantNoParse(t, c, m.laid(byte(first), m.gy, m.gx), api.ErrForm)
				wantNoParse(t, c, m.laid(byte(first), new(big.Int), new(big.Int)), api.ErrForm)
			}
		}
	}
}

func TestParseOfNoPoint(t *testing.T) {
	one := big.NewInt(1)
	for _, c := range curves {
		m := modelOf(c)
		wantNoParse(t, c, m.laid(4, new(big.Int), new(big.Int)), api.ErrPoint)
		wantNoParse(t, c, m.laid(4, m.p, new(big.Int)), api.ErrPoint)
		wantNoParse(t, c, m.laid(4, new(big.Int), m.p), api.ErrPoint)
		wantNoParse(t, c, m.laid(4, m.p, m.p), api.ErrPoint)
		wantNoParse(t, c, m.laid(4, m.gy, m.gx), api.ErrPoint)
		wantNoParse(t, c, m.laid(4, new(big.Int).Sub(m.p, one), one), api.ErrPoint)
		wantNoParse(t, c, append([]byte{4}, slices.Repeat([]byte{0xff}, 2*m.size)...), api.ErrPoint)
		right := m.bytes(m.base())
		for i := range 8 * (len(right) - 1) {
			b := slices.Clone(right)
			b[1+i/8] ^= 1 << (i % 8)
			wantNoParse(t, c, b, api.ErrPoint)
		}
	}
}

// A coordinate with the prime added still fits in its bytes where it is small:
// it is none.
func TestParseAboveThePrime(t *testing.T) {
	for _, c := range curves {
		m := modelOf(c)
		met := [2]int{}
		for _, p := range m.edges() {
			x, y := value(p.X), value(p.Y)
			if v := new(big.Int).Add(x, m.p); v.BitLen() <= 8*m.size {
				met[0]++
				wantNoParse(t, c, m.laid(4, v, y), api.ErrPoint)
			}
			if v := new(big.Int).Add(y, m.p); v.BitLen() <= 8*m.size {
				met[1]++
				wantNoParse(t, c, m.laid(4, x, v), api.ErrPoint)
			}
		}
		if met[0] < 3 || met[1] < 3 {
			t.Errorf("curve %d: only %v", c, met)
		}
	}
}

func TestParseOfNoCurve(t *testing.T) {
	for _, c := range noCurves {
		wantNoParse(t, c, nil, api.ErrArg)
		wantNoParse(t, c, []byte{4}, api.ErrArg)
		wantNoParse(t, c, make([]byte, 65), api.ErrArg)
		for _, d := range curves {
			wantNoParse(t, c, modelOf(d).bytes(curve.Base(d)), api.ErrArg)
		}
	}
}
