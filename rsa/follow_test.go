package rsa_test

import (
	"math/big"
	"math/rand"
	"slices"
	"testing"

	"chirograph/api"
	"chirograph/rsa"
)

// P8.7

// signed pads by the program itself, and signs by the secret exponent.
func signed(t *testing.T, p pair, alg int, sum []byte) []byte {
	t.Helper()
	raw, e := rsa.Pad(alg, sum, rsa.Size(p.key()))
	if e != api.OK {
		t.Fatalf("Pad: error %d", e)
	}
	return p.sign(raw)
}

func TestSignedIsVerified(t *testing.T) {
	r := rand.New(rand.NewSource(98))
	for range 40 {
		p := newPair(r, 752+r.Intn(40), pick(r, 3, 5, 17, 65537, uint64(1<<32+15), 1<<63+29), r.Intn(2) == 0)
		for _, alg := range algs {
			sum := some(r, len(library(alg)))
			sig := signed(t, p, alg, sum)
			wantRaw(t, p.key(), sig, modelPad(alg, sum, p.size()))
			wantVerify(t, "what was signed", p.key(), alg, sum, sig, api.OK)
		}
	}
}

func TestOtherSumIsNotVerified(t *testing.T) {
	r := rand.New(rand.NewSource(99))
	for _, alg := range algs {
		p := newPair(r, 800, 65537, false)
		sum := some(r, len(library(alg)))
		sig := signed(t, p, alg, sum)
		for i := range sum {
			for bit := range 8 {
				other := slices.Clone(sum)
				other[i] ^= 1 << bit
				wantVerify(t, "another sum", p.key(), alg, other, sig, api.ErrSig)
			}
		}
		for _, other := range [][]byte{sum[1:], append(slices.Clone(sum), 0), nil} {
			wantVerify(t, "no sum", p.key(), alg, other, sig, api.ErrArg)
		}
	}
}

func TestOtherNumberIsNotVerified(t *testing.T) {
	r := rand.New(rand.NewSource(100))
	for _, alg := range algs {
		p := newPair(r, 766+r.Intn(3), 3, true)
		sum := some(r, len(library(alg)))
		sig := signed(t, p, alg, sum)
		s := new(big.Int).SetBytes(sig)
		for i := range 8 * len(sig) {
			other := slices.Clone(sig)
			other[i/8] ^= 0x80 >> (i % 8)
			wantVerify(t, "another number", p.key(), alg, sum, other, api.ErrSig)
		}
		for _, v := range []*big.Int{new(big.Int), new(big.Int).Sub(p.n, s), new(big.Int).Rand(r, p.n), new(big.Int).Add(s, p.n)} {
			if v.BitLen() <= 8*p.size() {
				wantVerify(t, "another number", p.key(), alg, sum, v.FillBytes(make([]byte, p.size())), api.ErrSig)
			}
		}
		for _, other := range [][]byte{nil, sig[1:], sig[:len(sig)-1], append(slices.Clone(sig), 0), append([]byte{0}, sig...)} {
			wantVerify(t, "another length", p.key(), alg, sum, other, api.ErrSig)
		}
	}
}

// The same number, with the modulus added, has the same power: it is no
// signature, though it fits in as many bytes.
func TestNumberAboveTheModulusIsNotVerified(t *testing.T) {
	r := rand.New(rand.NewSource(101))
	p := newPair(r, 761, 3, true) // 96 bytes, of which the first one is 01
	sum := some(r, 32)
	sig := signed(t, p, api.Sha256, sum)
	above := new(big.Int).Add(new(big.Int).SetBytes(sig), p.n).FillBytes(make([]byte, p.size()))
	wantVerify(t, "what was signed", p.key(), api.Sha256, sum, sig, api.OK)
	wantVerify(t, "the modulus added", p.key(), api.Sha256, sum, above, api.ErrSig)
}

func TestOtherKeyDoesNotVerify(t *testing.T) {
	r := rand.New(rand.NewSource(102))
	p, q := newPair(r, 800, 3, false), newPair(r, 800, 3, false)
	sum := some(r, 20)
	sig := signed(t, p, api.Sha1, sum)
	wantVerify(t, "another modulus", q.key(), api.Sha1, sum, sig, api.ErrSig)
	k := p.key()
	k.E = limbs{5}
	wantVerify(t, "another exponent", k, api.Sha1, sum, sig, api.ErrSig)
}

// What is signed in one way is not right in the other.
func TestWaysStandApart(t *testing.T) {
	r := rand.New(rand.NewSource(103))
	p := newPair(r, 800, 3, false)
	for _, alg := range algs {
		sum := some(r, len(library(alg)))
		first, second := signed(t, p, alg, sum), p.sign(newStamp(800, alg, alg, sum, some(r, 10)).raw())
		wantVerify(t, "signed in the first way", p.key(), alg, sum, first, api.OK)
		wantPss(t, "signed in the second way", p.key(), alg, alg, 10, sum, second, api.OK)
		wantVerify(t, "signed in the second way", p.key(), alg, sum, second, api.ErrSig)
		for salt := range 80 {
			wantPss(t, "signed in the first way", p.key(), alg, alg, salt, sum, first, api.ErrSig)
		}
	}
}
