package digest_test

import (
	"crypto/sha1"
	"crypto/sha256"
	"crypto/sha512"
	"encoding/hex"
	"math/rand"
	"slices"
	"testing"

	"chirograph/api"
	"chirograph/digest"
)

var algs = []int{api.Sha1, api.Sha256, api.Sha384, api.Sha512}

// noAlgs are numbers by which no digest goes.
var noAlgs = []int{0, 5, 6, -1, -4, 20, 64, 256 + api.Sha256, 1 << 32, 1<<32 + api.Sha1, 1<<63 - 1, -1 << 63}

// library is the digest, reckoned by Go's library.
func library(alg int, b []byte) []byte {
	switch alg {
	case api.Sha1:
		s := sha1.Sum(b)
		return s[:]
	case api.Sha256:
		s := sha256.Sum256(b)
		return s[:]
	case api.Sha384:
		s := sha512.Sum384(b)
		return s[:]
	}
	s := sha512.Sum512(b)
	return s[:]
}

// some has n bytes by chance, the same ones each time.
func some(n int) []byte {
	b := make([]byte, n)
	rand.New(rand.NewSource(int64(n))).Read(b)
	return b
}

// fresh is a Hash that was handed some lists.
func fresh(t *testing.T, alg int, l ...[]byte) *digest.Hash {
	t.Helper()
	h, e := digest.New(alg)
	if h == nil || e != api.OK {
		t.Fatalf("New(%d): %v, error %d", alg, h, e)
	}
	for _, b := range l {
		write(t, h, b)
	}
	return h
}

func write(t *testing.T, h *digest.Hash, b []byte) {
	t.Helper()
	if e := h.Write(b); e != api.OK {
		t.Fatalf("Write of %d bytes: error %d", len(b), e)
	}
}

// want holds an answer of Sum against the digest of a message.
func want(t *testing.T, alg int, message, got []byte, e api.Errno) {
	t.Helper()
	if asked := library(alg, message); e != api.OK || !slices.Equal(got, asked) {
		t.Errorf("alg %d, %d bytes: %x, error %d; wanted %x", alg, len(message), got, e, asked)
	}
}

// wantHash asks that a Hash tells all that it should of a message.
func wantHash(t *testing.T, h *digest.Hash, alg int, message []byte) {
	t.Helper()
	if h.Alg() != alg || h.Len() != len(message) {
		t.Errorf("Alg %d, Len %d; wanted %d, %d", h.Alg(), h.Len(), alg, len(message))
	}
	want(t, alg, message, h.Sum(), api.OK)
}

func unhex(t *testing.T, s string) []byte {
	t.Helper()
	b, err := hex.DecodeString(s)
	if err != nil {
		t.Fatal(err)
	}
	return b
}
