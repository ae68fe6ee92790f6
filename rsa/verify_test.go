package rsa_test

import (
	"bytes"
	"crypto"
	golib "crypto/rsa"
	"math/rand"
	"slices"
	"testing"

	"chirograph/api"
	"chirograph/rsa"
)

func wantVerify(t *testing.T, what string, k api.RsaKey, alg int, sum, sig []byte, asked api.Errno) {
	t.Helper()
	wantErrno(t, "Verify: "+what, rsa.Verify(k, alg, sum, sig), asked)
}

// P8.5

func TestVerify(t *testing.T) {
	r := rand.New(rand.NewSource(86))
	for _, bits := range []int{752, 753, 760, 767, 1024, 2048} {
		for _, low := range []bool{false, true} {
			p := newPair(r, bits, pick(r, 3, 65537, uint64(1<<64-1)), low)
			for _, alg := range algs {
				sum := some(r, len(library(alg)))
				sig := p.sign(modelPad(alg, sum, p.size()))
				wantVerify(t, "a good one", p.key(), alg, sum, sig, api.OK)
			}
		}
	}
}

// Go's library verifies the same ones.
func TestVerifyAgainstLibrary(t *testing.T) {
	r := rand.New(rand.NewSource(87))
	hashes := []crypto.Hash{crypto.SHA1, crypto.SHA256, crypto.SHA384, crypto.SHA512}
	for _, bits := range []int{1024, 1025, 1031} {
		p := newPair(r, bits, 65537, false)
		public := &golib.PublicKey{N: p.n, E: 65537}
		for i, alg := range algs {
			sum := some(r, len(library(alg)))
			for j, raw := range nearlyRight(alg, sum, p.size()) {
				if j%11 > 0 && j < 3*p.size() { // of the bytes that are changed, some
					continue
				}
				sig := p.sign(raw)
				good := golib.VerifyPKCS1v15(public, hashes[i], sum, sig) == nil
				if (rsa.Verify(p.key(), alg, sum, sig) == api.OK) != good {
					t.Errorf("alg %d: what says %x: the library says %v", alg, raw, good)
				}
			}
		}
	}
}

// nearlyRight is the right one, and then what other programs have taken for it.
func nearlyRight(alg int, sum []byte, n int) [][]byte {
	good := modelPad(alg, sum, n)
	named := slices.Concat(heads(alg), sum)
	l := [][]byte{good}
	for i := range good { // each byte another one
		for _, x := range []byte{1, 0x80, 0xff} {
			if i > 0 || x == 1 { // lest it be above the modulus
				b := slices.Clone(good)
				b[i] ^= x
				l = append(l, b)
			}
		}
	}
	size := len(sum)
	bare := slices.Concat(heads(alg)[:len(heads(alg))-4], heads(alg)[len(heads(alg))-2:], sum) // no Null
	bare[1] -= 2
	bare[3] -= 2
	long := slices.Concat([]byte{0x30, 0x81, byte(len(named) - 2)}, named[2:])
	longer := slices.Concat(named[:len(named)-size-1], []byte{0x81, byte(size)}, sum)
	longer[1]++
	for _, t := range [][]byte{bare, long, longer, sum, named[2:], append(slices.Clone(named), 0), nil} {
		l = append(l, filled(t, n))
	}
	// Fewer ff, and bytes behind that nobody looks at.
	l = append(l, append(filled(named, n-1), 0), append(filled(named, n-10), make([]byte, 10)...))
	// No ff at all.
	l = append(l, slices.Concat(make([]byte, n-len(named)), named), slices.Concat([]byte{0, 1, 0}, named, make([]byte, n-len(named)-3)))
	// The second kind of filling up, and one by noughts.
	second := slices.Clone(good)
	second[1] = 2
	noughts := slices.Concat([]byte{0, 0}, make([]byte, n-len(named)-2), named)
	return append(l, second, noughts, make([]byte, n))
}

func TestVerifyNearlyRight(t *testing.T) {
	r := rand.New(rand.NewSource(88))
	for _, bits := range []int{833, 840} {
		p := newPair(r, bits, 17, false)
		for _, alg := range algs {
			sum := some(r, len(library(alg)))
			for i, raw := range nearlyRight(alg, sum, p.size()) {
				asked := api.ErrSig
				if i == 0 {
					asked = api.OK
				}
				if bytes.Equal(raw, modelPad(alg, sum, p.size())) != (i == 0) {
					t.Fatalf("alg %d: case %d is right", alg, i)
				}
				wantVerify(t, short(raw), p.key(), alg, sum, p.sign(raw), asked)
			}
		}
	}
}

// A digest of one alg is not taken for another's.
func TestVerifyOtherAlg(t *testing.T) {
	r := rand.New(rand.NewSource(89))
	p := newPair(r, 800, 3, false)
	for _, alg := range algs {
		for _, other := range algs {
			sum, others := some(r, 64)[:len(library(alg))], some(r, 64)[:len(library(other))]
			n := min(len(sum), len(others))
			copy(others, sum[:n])
			asked := api.ErrSig
			if alg == other {
				asked = api.OK
			}
			wantVerify(t, "another alg", p.key(), other, others, p.sign(modelPad(alg, sum, p.size())), asked)
		}
	}
}

// Keys that are just long enough for a digest, and too short by a byte: then
// there is no Pad, and no signature is right.
func TestVerifyShortKeys(t *testing.T) {
	r := rand.New(rand.NewSource(90))
	for _, alg := range algs[2:] {
		sum := some(r, len(library(alg)))
		n := least(alg)
		for _, bits := range []int{8*n - 7, 8 * n} {
			p := newPair(r, bits, 3, false)
			wantVerify(t, "just long enough", p.key(), alg, sum, p.sign(modelPad(alg, sum, n)), api.OK)
		}
		p := newPair(r, 8*n-8, 3, false)
		raw := modelPad(alg, sum, n)
		raw = append(raw[:2], raw[3:]...)
		wantVerify(t, "too short by a byte", p.key(), alg, sum, p.sign(raw), api.ErrSig)
		p = newPair(r, 512, 3, false)
		wantVerify(t, "far too short", p.key(), alg, sum, make([]byte, 64), api.ErrSig)
	}
}

func TestVerifyFirstError(t *testing.T) {
	good := api.RsaKey{N: odd(512), E: limbs{3}}
	for _, k := range []api.RsaKey{good, {}, {N: limbs{15}, E: limbs{3}}, {N: odd(512), E: limbs{4}}} {
		for _, sig := range [][]byte{nil, make([]byte, 64), make([]byte, 63), bytes.Repeat([]byte{0xff}, 64)} {
			for _, alg := range noAlgs {
				wantVerify(t, "no alg", k, alg, nil, sig, api.ErrArg)
				wantVerify(t, "no alg", k, alg, make([]byte, 20), sig, api.ErrArg)
			}
			for _, alg := range algs {
				for size := range 70 {
					if size != len(library(alg)) {
						wantVerify(t, "no digest", k, alg, make([]byte, size), sig, api.ErrArg)
					}
				}
				asked := api.ErrKey
				if len(k.N) == 16 && k.E[0] == 3 {
					asked = api.ErrSig
				}
				wantVerify(t, "no key, or no signature", k, alg, library(alg), sig, asked)
			}
		}
	}
}
