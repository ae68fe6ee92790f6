package sha

import (
	"bytes"
	"crypto/sha1"
	"crypto/sha256"
	"crypto/sha512"
	"hash"
	"testing"

	"chirograph/api"
)

func library(alg int) hash.Hash {
	switch alg {
	case api.Sha1:
		return sha1.New()
	case api.Sha256:
		return sha256.New()
	case api.Sha384:
		return sha512.New384()
	}
	return sha512.New()
}

// P2.3 knows no bound: more bytes than package digest takes have a digest too.
func TestMoreThanMaxTotal(t *testing.T) {
	piece := bytes.Repeat([]byte("message "), api.MaxTotal/8)
	for alg := api.Sha1; alg <= api.Sha512; alg++ {
		s, l := Start(alg), library(alg)
		for _, b := range [][]byte{piece, piece[:1], piece[:1000], piece} {
			s.Take(b)
			l.Write(b)
			if !bytes.Equal(s.Sum(), l.Sum(nil)) {
				t.Errorf("alg %d, %d bytes: %x; wanted %x", alg, s.Len(), s.Sum(), l.Sum(nil))
			}
		}
		if s.Alg() != alg || s.Len() != 2*api.MaxTotal+1001 {
			t.Errorf("alg %d: Alg %d, Len %d", alg, s.Alg(), s.Len())
		}
	}
}

// As many bits as do not fit in 32 of them.
func TestManyBits(t *testing.T) {
	piece := bytes.Repeat([]byte("message "), api.MaxTotal/8)
	s, l := Start(api.Sha512), library(api.Sha512)
	for range 1<<29/api.MaxTotal + 1 {
		s.Take(piece)
		l.Write(piece)
	}
	if !bytes.Equal(s.Sum(), l.Sum(nil)) {
		t.Errorf("%d bytes: %x; wanted %x", s.Len(), s.Sum(), l.Sum(nil))
	}
}

// A copy goes on by itself, wherever in a block it is taken.
func TestCopies(t *testing.T) {
	for alg := api.Sha1; alg <= api.Sha512; alg++ {
		for n := range 300 {
			m := bytes.Repeat([]byte{byte(n)}, n)
			s := Start(alg)
			s.Take(m)
			one, two := s, s
			one.Take([]byte("one"))
			two.Take([]byte("another one"))
			for tail, c := range map[string]State{"": s, "one": one, "another one": two} {
				l := library(alg)
				l.Write(m)
				l.Write([]byte(tail))
				if !bytes.Equal(c.Sum(), l.Sum(nil)) || c.Len() != n+len(tail) {
					t.Errorf("alg %d, %d bytes and %q: %x; wanted %x", alg, n, tail, c.Sum(), l.Sum(nil))
				}
			}
		}
	}
}

func TestNoAlg(t *testing.T) {
	for _, alg := range []int{0, 5, -1, 1 << 32, 1<<63 - 1} {
		s := Start(alg)
		s.Take([]byte("abc"))
		if Size(alg) != 0 || Block(alg) != 0 || len(s.Sum()) != 0 || s.Len() != 0 {
			t.Errorf("alg %d: Size %d, Block %d, Sum %x, Len %d", alg, Size(alg), Block(alg), s.Sum(), s.Len())
		}
	}
}
