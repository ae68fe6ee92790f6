package rsa_test

import (
	"bytes"
	"crypto/sha1"
	"crypto/sha256"
	"crypto/sha512"
	"encoding/hex"
	"math/big"
	"math/rand"
	"strings"
	"testing"

	"chirograph/api"
	"chirograph/rsa"
)

var algs = []int{api.Sha1, api.Sha256, api.Sha384, api.Sha512}

// noAlgs are numbers by which no digest goes.
var noAlgs = []int{0, 5, 6, -1, -4, 20, 64, 256 + api.Sha256, 1 << 32, 1<<32 + api.Sha1, 1<<63 - 1, -1 << 63}

type limbs = []uint32

// library is the digest of lists, reckoned by Go's library.
func library(alg int, l ...[]byte) []byte {
	m := bytes.Join(l, nil)
	switch alg {
	case api.Sha1:
		s := sha1.Sum(m)
		return s[:]
	case api.Sha256:
		s := sha256.Sum256(m)
		return s[:]
	case api.Sha384:
		s := sha512.Sum384(m)
		return s[:]
	}
	s := sha512.Sum512(m)
	return s[:]
}

// hx has the bytes of hexadecimal digits; blanks are left out.
func hx(s string) []byte {
	b, err := hex.DecodeString(strings.ReplaceAll(s, " ", ""))
	if err != nil {
		panic(err)
	}
	return b
}

func pick[T any](r *rand.Rand, l ...T) T {
	return l[r.Intn(len(l))]
}

// some has n bytes by chance.
func some(r *rand.Rand, n int) []byte {
	b := make([]byte, n)
	r.Read(b)
	return b
}

// short shows the beginning of what may be long.
func short(b []byte) string {
	return hex.EncodeToString(b[:min(len(b), 80)])
}

// list is the number of a value.
func list(v *big.Int) limbs {
	var a limbs
	for v = new(big.Int).Set(v); v.Sign() > 0; v.Rsh(v, 32) {
		a = append(a, uint32(new(big.Int).And(v, big.NewInt(1<<32-1)).Uint64()))
	}
	return a
}

// value is what a list is worth.
func value(a limbs) *big.Int {
	v := new(big.Int)
	for i := len(a) - 1; i >= 0; i-- {
		v.Or(v.Lsh(v, 32), big.NewInt(int64(a[i])))
	}
	return v
}

func pow2(n int) *big.Int {
	return new(big.Int).Lsh(big.NewInt(1), uint(n))
}

// pair is a key with its secret exponent.
type pair struct {
	n, e, d *big.Int
	bits    int
}

func (p pair) key() api.RsaKey {
	return api.RsaKey{N: list(p.n), E: list(p.e)}
}

// size is in how many bytes the modulus stands.
func (p pair) size() int {
	return (p.bits + 7) / 8
}

// sign tells the signature that says raw, whatever that is.
func (p pair) sign(raw []byte) []byte {
	v := new(big.Int).SetBytes(raw)
	if v.Cmp(p.n) >= 0 {
		panic("no such signature")
	}
	return new(big.Int).Exp(v, p.d, p.n).FillBytes(make([]byte, p.size()))
}

// primeFor steps from v to a prime to which e may be an exponent.
func primeFor(v, e *big.Int, step int64) *big.Int {
	v = new(big.Int).Or(v, big.NewInt(1))
	for {
		below := new(big.Int).Sub(v, big.NewInt(1))
		if v.ProbablyPrime(8) && new(big.Int).GCD(nil, nil, e, below).Cmp(big.NewInt(1)) == 0 {
			return v
		}
		v.Add(v, big.NewInt(step))
	}
}

// newPair makes a key whose modulus has just so many bits: nearly 2^bits, or,
// if it is low, a little above 2^(bits - 1). (It is a product of more primes
// where it is long, since these are sooner found.)
func newPair(r *rand.Rand, bits int, exponent uint64, low bool) pair {
	e := new(big.Int).SetUint64(exponent)
	each := max(bits/32, 200)
	n, order := big.NewInt(1), big.NewInt(1)
	take := func(p *big.Int) {
		n.Mul(n, p)
		order.Mul(order, new(big.Int).Sub(p, big.NewInt(1)))
	}
	for bits-n.BitLen() > 2*each {
		v := new(big.Int).Rand(r, pow2(each-2))
		take(primeFor(v.Add(v, pow2(each-1)), e, 2))
	}
	if low {
		q := new(big.Int).Div(pow2(bits-1), n)
		take(primeFor(q.Add(q, big.NewInt(1)), e, 2))
	} else {
		q := new(big.Int).Div(pow2(bits), n)
		take(primeFor(q.Sub(q, big.NewInt(3)), e, -2))
	}
	if n.BitLen() != bits {
		panic("a modulus of other bits")
	}
	return pair{n: n, e: e, d: new(big.Int).ModInverse(e, order), bits: bits}
}

func wantErrno(t *testing.T, what string, e, asked api.Errno) {
	t.Helper()
	if e != asked {
		t.Errorf("%s: error %d; wanted %d", what, e, asked)
	}
}

// want asks for bytes, and no error.
func want(t *testing.T, what string, b []byte, e api.Errno, asked []byte) {
	t.Helper()
	if e != api.OK || !bytes.Equal(b, asked) {
		t.Errorf("%s: %s, error %d; wanted %s", what, short(b), e, short(asked))
	}
}

// wantNone asks that beside the error there is nothing.
func wantNone(t *testing.T, what string, b []byte, e, asked api.Errno) {
	t.Helper()
	if e != asked || len(b) != 0 {
		t.Errorf("%s: %d bytes, error %d; wanted error %d", what, len(b), e, asked)
	}
}

func wantRaw(t *testing.T, k api.RsaKey, sig, asked []byte) {
	t.Helper()
	b, e := rsa.Raw(k, sig)
	want(t, "Raw", b, e, asked)
}

func wantNoRaw(t *testing.T, k api.RsaKey, sig []byte, asked api.Errno) {
	t.Helper()
	b, e := rsa.Raw(k, sig)
	wantNone(t, "Raw of "+short(sig), b, e, asked)
}
