package rsa_test

import (
	"math/rand"
	"slices"
	"testing"

	"chirograph/api"
	"chirograph/rsa"
)

func whole[T any](l []T) []T {
	return l[:cap(l)]
}

// roomy is l in other memory, with spare room in which something stands.
func roomy[T byte | uint32](l []T) []T {
	return append(slices.Clone(l), 11, 12, 13, 14, 15, 16, 17)[:len(l)]
}

func scribble(b []byte) {
	for i := range whole(b) {
		whole(b)[i] ^= 0xff
	}
}

// The rule of memory: what is handed in stays as it is, spare room too, and
// spare room plays no part.
func TestArgumentsStay(t *testing.T) {
	r := rand.New(rand.NewSource(104))
	for _, alg := range algs {
		p := newPair(r, 769, 3, false)
		k := api.RsaKey{N: roomy(padded(p.key().N, 30)), E: roomy(limbs{3, 0})}
		sum := roomy(some(r, len(library(alg))))
		first := roomy(p.sign(modelPad(alg, sum, p.size())))
		second := roomy(p.sign(newStamp(769, alg, alg, sum, some(r, 9)).raw()))
		bytes, numbers := [][]byte{sum, first, second}, []limbs{k.N, k.E}
		var wasBytes [][]byte
		var wasNumbers []limbs
		for _, b := range bytes {
			wasBytes = append(wasBytes, slices.Clone(whole(b)))
		}
		for _, n := range numbers {
			wasNumbers = append(wasNumbers, slices.Clone(whole(n)))
		}
		if rsa.Check(k) != api.OK || rsa.Size(k) != 97 {
			t.Errorf("error %d, Size %d", rsa.Check(k), rsa.Size(k))
		}
		wantVerify(t, "spare room", k, alg, sum, first, api.OK)
		wantVerify(t, "spare room", k, alg, sum, second, api.ErrSig)
		wantPss(t, "spare room", k, alg, alg, 9, sum, second, api.OK)
		wantPss(t, "spare room", k, alg, alg, 9, sum, first, api.ErrSig)
		raw, e := rsa.Raw(k, first)
		want(t, "Raw", raw, e, modelPad(alg, sum, 97))
		pad, e := rsa.Pad(alg, sum, 200)
		want(t, "Pad", pad, e, modelPad(alg, sum, 200))
		mask, e := rsa.Mask(alg, sum, 200)
		want(t, "Mask", mask, e, modelMask(alg, sum, 200))
		scribble(raw)
		scribble(pad)
		scribble(mask)
		for i, b := range bytes {
			if !slices.Equal(whole(b), wasBytes[i]) {
				t.Errorf("alg %d: argument %d was changed", alg, i)
			}
		}
		for i, n := range numbers {
			if !slices.Equal(whole(n), wasNumbers[i]) {
				t.Errorf("alg %d: number %d was changed", alg, i)
			}
		}
	}
}

// Each answer is memory of its own: it stays as it is when what was handed in
// changes, and when another answer does.
func TestAnswersStandApart(t *testing.T) {
	k := api.RsaKey{N: odd(513), E: limbs{3}}
	for _, alg := range algs {
		for _, n := range []int{1, 20, 64, 65, 200, 2048} {
			seed, sum, sig := []byte("a seed"), library(alg), make([]byte, 65)
			sig[64] = 5
			ask := func() [][]byte {
				mask, _ := rsa.Mask(alg, seed, n)
				pad, _ := rsa.Pad(alg, sum, max(n, 100))
				raw, _ := rsa.Raw(k, sig)
				return [][]byte{mask, pad, raw}
			}
			one, two := ask(), ask()
			var was [][]byte
			for _, b := range one {
				was = append(was, slices.Clone(b))
			}
			for _, b := range [][]byte{seed, sum, sig, two[0], two[1], two[2]} {
				scribble(b)
			}
			for i := range one {
				if !slices.Equal(one[i], was[i]) {
					t.Errorf("alg %d, %d bytes: answer %d changed", alg, n, i)
				}
			}
		}
	}
}

// Nil and empty lists are alike; what is asked twice is answered alike.
func TestNilAndEmpty(t *testing.T) {
	k := api.RsaKey{N: odd(512), E: limbs{3}}
	for range 2 {
		for _, none := range [][]byte{nil, {}} {
			for _, alg := range algs {
				wantMask(t, alg, none, 70)
				wantMask(t, alg, none, 0)
				b, e := rsa.Pad(alg, none, 100)
				wantNone(t, "Pad of nothing", b, e, api.ErrArg)
				wantVerify(t, "no sum", k, alg, none, make([]byte, 64), api.ErrArg)
				wantVerify(t, "no signature", k, alg, library(alg), none, api.ErrSig)
				wantPss(t, "no sum", k, alg, alg, 0, none, make([]byte, 64), api.ErrArg)
				wantPss(t, "no signature", k, alg, alg, 0, library(alg), none, api.ErrSig)
			}
			wantNoRaw(t, k, none, api.ErrSig)
		}
		wantNoKey(t, api.RsaKey{N: limbs{}, E: limbs{}})
		wantNoKey(t, api.RsaKey{})
	}
}

// One list handed in as several arguments is like several that are alike.
func TestSameListTwice(t *testing.T) {
	n := odd(512)
	wantNoKey(t, api.RsaKey{N: n, E: n})
	b := make([]byte, 64)
	k := api.RsaKey{N: n, E: limbs{3}}
	wantVerify(t, "sum and signature", k, api.Sha512, b, b, api.ErrSig)
	wantPss(t, "sum and signature", k, api.Sha512, api.Sha512, 0, b, b, api.ErrSig)
}
