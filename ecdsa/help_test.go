package ecdsa_test

import (
	"bytes"
	"crypto/elliptic"
	"encoding/asn1"
	"encoding/hex"
	"math/big"
	"math/rand"
	"slices"
	"strings"
	"testing"

	"chirograph/api"
	"chirograph/ecdsa"
)

var curves = []int{api.P256, api.P384}

// noCurves are numbers by which no curve goes.
var noCurves = []int{0, 3, 4, -1, -2, 32, 48, 256, 384, 256 + api.P256, 1 << 32, 1<<32 + api.P256, 1<<32 + api.P384, 1<<63 - 1, -1 << 63}

var one = big.NewInt(1)

type limbs = []uint32

func library(c int) elliptic.Curve {
	if c == api.P256 {
		return elliptic.P256()
	}
	return elliptic.P384()
}

func prime(c int) *big.Int { return library(c).Params().P }

func order(c int) *big.Int { return library(c).Params().N }

// size is how many bytes a coordinate has.
func size(c int) int { return library(c).Params().BitSize / 8 }

// hx has the bytes of hexadecimal digits; blanks are left out.
func hx(s string) []byte {
	b, err := hex.DecodeString(strings.ReplaceAll(s, " ", ""))
	if err != nil {
		panic(err)
	}
	return b
}

func hexed(s string) *big.Int {
	return new(big.Int).SetBytes(hx(s))
}

// some has n bytes by chance.
func some(r *rand.Rand, n int) []byte {
	b := make([]byte, n)
	r.Read(b)
	return b
}

// list is the number of a value.
func list(v *big.Int) limbs {
	var a limbs
	for v = new(big.Int).Set(v); v.Sign() > 0; v.Rsh(v, 32) {
		a = append(a, uint32(new(big.Int).And(v, big.NewInt(1<<32-1)).Uint64()))
	}
	return a
}

// value is what a list is worth.
func value(a limbs) *big.Int {
	v := new(big.Int)
	for i := len(a) - 1; i >= 0; i-- {
		v.Or(v.Lsh(v, 32), big.NewInt(int64(a[i])))
	}
	return v
}

// padded puts limbs 0 behind a, so that the list has n limbs or more.
func padded(a limbs, n int) limbs {
	return append(slices.Clone(a), make(limbs, max(0, n-len(a)))...)
}

// full has n limbs, all of their bits set.
func full(n int) limbs {
	return slices.Repeat(limbs{1<<32 - 1}, n)
}

func point(x, y *big.Int) api.Point {
	return api.Point{X: list(x), Y: list(y)}
}

// long is the same point, in lists of n limbs or more.
func long(p api.Point, n int) api.Point {
	return api.Point{X: padded(p.X, n), Y: padded(p.Y, n)}
}

// base is a number of times the base.
func base(c int, k *big.Int) api.Point {
	return point(library(c).ScalarBaseMult(k.Bytes()))
}

func plus(c int, p, q api.Point) api.Point {
	return point(library(c).Add(value(p.X), value(p.Y), value(q.X), value(q.Y)))
}

func times(c int, k *big.Int, p api.Point) api.Point {
	return point(library(c).ScalarMult(value(p.X), value(p.Y), k.Bytes()))
}

func negated(c int, p api.Point) api.Point {
	return point(value(p.X), new(big.Int).Sub(prime(c), value(p.Y)))
}

// lifted is a point with this X, if there is one.
func lifted(c int, x *big.Int) (p api.Point, ok bool) {
	v := new(big.Int).Mul(x, x)
	v.Sub(v, big.NewInt(3)).Mul(v, x).Add(v, library(c).Params().B)
	y := v.ModSqrt(v.Mod(v, prime(c)), prime(c))
	if y == nil {
		return api.Point{}, false
	}
	return point(x, y), true
}

// factor is a number by chance from 1 to the order less 1.
func factor(r *rand.Rand, c int) *big.Int {
	v := new(big.Int).Rand(r, new(big.Int).Sub(order(c), one))
	return v.Add(v, one)
}

func mod(c int, v *big.Int) *big.Int {
	return new(big.Int).Mod(v, order(c))
}

func mulMod(c int, a, b *big.Int) *big.Int {
	return mod(c, new(big.Int).Mul(a, b))
}

func inverse(c int, a *big.Int) *big.Int {
	return new(big.Int).ModInverse(a, order(c))
}

// number is what counts of a digest.
func number(c int, sum []byte) *big.Int {
	return new(big.Int).SetBytes(sum[:min(len(sum), size(c))])
}

// sumOf is a digest whose number is v.
func sumOf(c int, v *big.Int) []byte {
	return v.FillBytes(make([]byte, size(c)))
}

// laid is a signature, laid by Go's library; its numbers may be below 0.
func laid(r, s *big.Int) []byte {
	return marshal(struct{ R, S *big.Int }{r, s})
}

// integer is one of its numbers.
func integer(v *big.Int) []byte {
	return marshal(v)
}

func marshal(x any) []byte {
	b, err := asn1.Marshal(x)
	if err != nil {
		panic(err)
	}
	return b
}

// sign is made by the secret number d, with k used once.
func sign(c int, d, k *big.Int, sum []byte) (r, s *big.Int) {
	r = mod(c, value(base(c, k).X))
	s = new(big.Int).Add(number(c, sum), new(big.Int).Mul(r, d))
	return r, mulMod(c, s, inverse(c, k))
}

func wantErrno(t *testing.T, what string, e, asked api.Errno) {
	t.Helper()
	if e != asked {
		t.Errorf("%s: error %d; wanted %d", what, e, asked)
	}
}

func wantKey(t *testing.T, c int, p api.Point, asked api.Errno) {
	t.Helper()
	if e := ecdsa.Key(c, p); e != asked {
		t.Errorf("Key(%d, %x): error %d; wanted %d", c, p, e, asked)
	}
}

func wantVerify(t *testing.T, what string, c int, p api.Point, sum, sig []byte, asked api.Errno) {
	t.Helper()
	if e := ecdsa.Verify(c, p, sum, sig); e != asked {
		t.Errorf("%s: Verify(%d, %x, %x, %x): error %d; wanted %d", what, c, p, sum, sig, e, asked)
	}
}

func wantParse(t *testing.T, sig []byte, r, s limbs) {
	t.Helper()
	gotR, gotS, e := ecdsa.Parse(sig)
	if e != api.OK || !slices.Equal(gotR, r) || !slices.Equal(gotS, s) {
		t.Errorf("Parse(%x): %x, %x, error %d; wanted %x, %x", short(sig), gotR, gotS, e, r, s)
	}
}

// wantNoParse asks that beside the error there is nothing.
func wantNoParse(t *testing.T, sig []byte, asked api.Errno) {
	t.Helper()
	r, s, e := ecdsa.Parse(sig)
	if e != asked || len(r)+len(s) != 0 {
		t.Errorf("Parse(%x): %x, %x, error %d; wanted error %d", short(sig), r, s, e, asked)
	}
}

func wantBuild(t *testing.T, r, s limbs, asked []byte) {
	t.Helper()
	b, e := ecdsa.Build(r, s)
	if e != api.OK || !bytes.Equal(b, asked) {
		t.Errorf("Build(%x, %x): %x, error %d; wanted %x", r, s, b, e, asked)
	}
}

// short is the beginning of what may be long.
func short(b []byte) []byte {
	return b[:min(len(b), 40)]
}
