package rsa_test

import (
	"math/rand"
	"testing"

	"chirograph/api"
	"chirograph/rsa"
)

// modelMask makes more blocks than are asked for, and cuts.
func modelMask(alg int, seed []byte, n int) []byte {
	var m []byte
	for i := 0; i <= n/20; i++ {
		m = append(m, library(alg, seed, []byte{0, 0, byte(i >> 8), byte(i)})...)
	}
	return m[:n]
}

func wantMask(t *testing.T, alg int, seed []byte, n int) {
	t.Helper()
	b, e := rsa.Mask(alg, seed, n)
	want(t, "Mask", b, e, modelMask(alg, seed, n))
	if t.Failed() {
		t.Fatalf("Mask(%d, %s, %d)", alg, short(seed), n)
	}
}

// P8.3

func TestMaskExamples(t *testing.T) {
	b, e := rsa.Mask(api.Sha1, []byte("foo"), 3)
	want(t, "Mask", b, e, hx("1ac907"))
	b, e = rsa.Mask(api.Sha1, []byte("foo"), 5)
	want(t, "Mask", b, e, hx("1ac9075cd4"))
	b, e = rsa.Mask(api.Sha1, []byte("bar"), 50)
	want(t, "Mask", b, e, hx("bc0c655e016bc2931d85a2e675181adcef7f581f76df2739da74faac41627be2f7f415c89e983fd0ce80ced9878641cb4876"))
	b, e = rsa.Mask(api.Sha256, []byte("bar"), 50)
	want(t, "Mask", b, e, hx("382576a7841021cc28fc4c0948753fb8312090cea942ea4c4e735d10dc724b155f9f6069f289d61daca0cb814502ef04eae1"))
}

// Every length that there is, of one seed; the count goes to 102 of Sha1.
func TestMaskOfEachLength(t *testing.T) {
	seed := []byte("a seed")
	for _, alg := range algs {
		long := modelMask(alg, seed, 2048)
		for n := range 2049 {
			b, e := rsa.Mask(alg, seed, n)
			want(t, "Mask", b, e, long[:n])
		}
	}
}

func TestMaskOfSeeds(t *testing.T) {
	r := rand.New(rand.NewSource(83))
	for _, alg := range algs {
		for n := range 300 {
			wantMask(t, alg, some(r, n), pick(r, 1, 20, 21, 32, 48, 64, 65, 200))
		}
		wantMask(t, alg, some(r, 100000), 100)
	}
}

func TestMaskWrong(t *testing.T) {
	for _, alg := range noAlgs {
		for _, n := range []int{0, 1, 20, 2048, 2049, -1} {
			b, e := rsa.Mask(alg, []byte("foo"), n)
			wantNone(t, "Mask of no alg", b, e, api.ErrArg)
		}
	}
	for _, alg := range algs {
		for _, n := range []int{-1, -2048, -1 << 63, 2049, 2050, 1 << 20, 1 << 32, 1<<63 - 1} {
			for _, seed := range [][]byte{nil, []byte("foo")} {
				b, e := rsa.Mask(alg, seed, n)
				wantNone(t, "Mask of no length", b, e, api.ErrArg)
			}
		}
	}
}

// No bound of a seed is named: what layer 2 refuses to take is no fault here.
func TestMaskOfLongSeeds(t *testing.T) {
	seed := some(rand.New(rand.NewSource(84)), api.MaxTotal+100)
	for _, alg := range algs {
		for _, n := range []int{api.MaxTotal - 5, api.MaxTotal - 4, api.MaxTotal - 3, api.MaxTotal, api.MaxTotal + 1, len(seed)} {
			b, e := rsa.Mask(alg, seed[:n], 3)
			want(t, "Mask of a long seed", b, e, modelMask(alg, seed[:n], 3))
		}
	}
	b, e := rsa.Mask(api.Sha512, seed, 200)
	want(t, "Mask of a long seed", b, e, modelMask(api.Sha512, seed, 200))
}
