package curve_test

import (
	"bytes"
	"math/big"
	"math/rand"
	"slices"
	"testing"

	"chirograph/api"
	"chirograph/curve"
)

var curves = []int{api.P256, api.P384}

// noCurves are numbers by which no curve goes.
var noCurves = []int{0, 3, 4, -1, -2, 32, 48, 256, 384, 256 + api.P256, 1 << 32, 1<<32 + api.P256, 1<<32 + api.P384, 1<<63 - 1, -1 << 63}

type limbs = []uint32

func hexed(s string) *big.Int {
	v, ok := new(big.Int).SetString(s, 16)
	if !ok {
		panic("no number: " + s)
	}
	return v
}

// list is the number of a value.
func list(v *big.Int) limbs {
	var a limbs
	for v = new(big.Int).Set(v); v.Sign() > 0; v.Rsh(v, 32) {
		a = append(a, uint32(new(big.Int).And(v, big.NewInt(1<<32-1)).Uint64()))
	}
	return a
}

// value is what a list is worth.
func value(a limbs) *big.Int {
	v := new(big.Int)
	for i := len(a) - 1; i >= 0; i-- {
		v.Or(v.Lsh(v, 32), big.NewInt(int64(a[i])))
	}
	return v
}

// padded puts limbs 0 behind a, so that the list has n limbs or more.
func padded(a limbs, n int) limbs {
	return append(slices.Clone(a), make(limbs, max(0, n-len(a)))...)
}

// full has n limbs, all of their bits set.
func full(n int) limbs {
	return slices.Repeat(limbs{1<<32 - 1}, n)
}

func point(x, y *big.Int) api.Point {
	return api.Point{X: list(x), Y: list(y)}
}

// long is the same point, in lists of n limbs.
func long(p api.Point, n int) api.Point {
	return api.Point{X: padded(p.X, n), Y: padded(p.Y, n)}
}

// isPoint holds lists against each other limb by limb, so that limbs 0 at their
// ends are seen too.
func isPoint(p, q api.Point) bool {
	return slices.Equal(p.X, q.X) && slices.Equal(p.Y, q.Y)
}

func want(t *testing.T, what string, p api.Point, e api.Errno, asked api.Point) {
	t.Helper()
	if e != api.OK || !isPoint(p, asked) {
		t.Errorf("%s: %x, error %d; wanted %x", what, p, e, asked)
	}
}

// wantNone asks that beside the error there is nothing.
func wantNone(t *testing.T, what string, p api.Point, e, asked api.Errno) {
	t.Helper()
	if e != asked || len(p.X)+len(p.Y) != 0 {
		t.Errorf("%s: %x, error %d; wanted error %d", what, p, e, asked)
	}
}

func wantBytes(t *testing.T, what string, b []byte, e api.Errno, asked []byte) {
	t.Helper()
	if e != api.OK || !bytes.Equal(b, asked) {
		t.Errorf("%s: %x, error %d; wanted %x", what, b, e, asked)
	}
}

func wantNoBytes(t *testing.T, what string, b []byte, e, asked api.Errno) {
	t.Helper()
	if e != asked || len(b) != 0 {
		t.Errorf("%s: %x, error %d; wanted error %d", what, b, e, asked)
	}
}

// The calls of which no error is awaited.

func neg(t *testing.T, c int, p api.Point) api.Point {
	t.Helper()
	return fine(t)(curve.Neg(c, p))
}

func add(t *testing.T, c int, p, q api.Point) api.Point {
	t.Helper()
	return fine(t)(curve.Add(c, p, q))
}

func mul(t *testing.T, c int, k limbs, p api.Point) api.Point {
	t.Helper()
	return fine(t)(curve.Mul(c, k, p))
}

func mix(t *testing.T, c int, a, b limbs, q api.Point) api.Point {
	t.Helper()
	return fine(t)(curve.Mix(c, a, b, q))
}

func fine(t *testing.T) func(p api.Point, e api.Errno) api.Point {
	t.Helper()
	return func(p api.Point, e api.Errno) api.Point {
		t.Helper()
		if e != api.OK {
			t.Fatalf("error %d", e)
		}
		return p
	}
}

// factor is a number of at most n limbs by chance: now and then of few bits, of
// many that are alike, or with limbs 0 at its end.
func factor(r *rand.Rand, n int) limbs {
	a := make(limbs, r.Intn(n+1))
	for i := range a {
		switch r.Intn(4) {
		case 0:
			a[i] = uint32(r.Intn(3)) - 1
		default:
			a[i] = r.Uint32()
		}
	}
	return a
}
