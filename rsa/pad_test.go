package rsa_test

import (
	"bytes"
	"math/rand"
	"slices"
	"testing"

	"chirograph/api"
	"chirograph/rsa"
)

// heads is what stands ahead of a digest, laid by hand.
func heads(alg int) []byte {
	switch alg {
	case api.Sha1:
		return hx("3021 3009 06052b0e03021a 0500 0414")
	case api.Sha256:
		return hx("3031 300d 0609608648016503040201 0500 0420")
	case api.Sha384:
		return hx("3041 300d 0609608648016503040202 0500 0430")
	}
	return hx("3051 300d 0609608648016503040203 0500 0440")
}

// filled is bytes T in n bytes.
func filled(t []byte, n int) []byte {
	return slices.Concat([]byte{0, 1}, bytes.Repeat([]byte{0xff}, n-len(t)-3), []byte{0}, t)
}

func modelPad(alg int, sum []byte, n int) []byte {
	return filled(slices.Concat(heads(alg), sum), n)
}

// least is in how few bytes a digest is filled up.
func least(alg int) int {
	return len(heads(alg)) + len(library(alg)) + 11
}

// P8.4

func TestPadExample(t *testing.T) {
	sum := make([]byte, 20)
	b, e := rsa.Pad(api.Sha1, sum, 45)
	wantNone(t, "Pad in 45 bytes", b, e, api.ErrShort)
	b, e = rsa.Pad(api.Sha1, sum, 46)
	want(t, "Pad in 46 bytes", b, e, hx("0001 ffffffffffffffff 00 30213009 06052b0e03021a 0500 0414 0000000000000000000000000000000000000000"))
}

func TestPad(t *testing.T) {
	r := rand.New(rand.NewSource(85))
	for i, alg := range algs {
		from := []int{46, 62, 78, 94}[i]
		if least(alg) != from {
			t.Fatalf("alg %d: least %d", alg, least(alg))
		}
		for n := from; n <= 2048; n++ {
			sum := some(r, len(library(alg)))
			b, e := rsa.Pad(alg, sum, n)
			want(t, "Pad", b, e, modelPad(alg, sum, n))
		}
	}
}

func TestPadTooShort(t *testing.T) {
	for _, alg := range algs {
		sum := library(alg)
		for n := range least(alg) {
			b, e := rsa.Pad(alg, sum, n)
			wantNone(t, "Pad", b, e, api.ErrShort)
		}
		for _, n := range []int{-1, -46, -1 << 32, -1 << 63} {
			b, e := rsa.Pad(alg, sum, n)
			wantNone(t, "Pad", b, e, api.ErrShort)
		}
	}
}

// No digest, or more bytes than may be: at lengths that are right, too short
// and too long, since this is asked first.
func TestPadWrong(t *testing.T) {
	lengths := []int{-1, 0, 1, 45, 46, 61, 93, 94, 2048, 2049}
	for _, alg := range algs {
		for size := range 100 {
			for _, n := range lengths {
				if size != len(library(alg)) {
					b, e := rsa.Pad(alg, make([]byte, size), n)
					wantNone(t, "Pad of no digest", b, e, api.ErrArg)
				}
			}
		}
		for _, n := range []int{2049, 2050, 1 << 20, 1 << 32, 1<<63 - 1} {
			b, e := rsa.Pad(alg, library(alg), n)
			wantNone(t, "Pad in too many bytes", b, e, api.ErrArg)
		}
	}
	for _, alg := range noAlgs {
		for _, size := range []int{0, 20, 32, 48, 64} {
			for _, n := range lengths {
				b, e := rsa.Pad(alg, make([]byte, size), n)
				wantNone(t, "Pad of no alg", b, e, api.ErrArg)
			}
		}
	}
}
