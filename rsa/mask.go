package rsa

import (
	"iter"

	"chirograph/api"
	"chirograph/digest"
	"chirograph/sha"
)

// Mask: bytes made of a seed.
func Mask(alg int, seed []byte, n int) ([]byte, api.Errno) {
	if digest.Size(alg) == 0 || n < 0 || n > most {
		return nil, api.ErrArg
	}
	m := make([]byte, n)
	left := m
	for block := range blocks(alg, seed) {
		left = left[copy(left, block):]
		if len(left) == 0 {
			break
		}
	}
	return m, api.OK
}

// blocks tells a mask's blocks, for as long as one asks. They are reckoned by
// package sha, since seed may be of any length, and since the seed, on which
// all of them begin, goes in only once that way.
func blocks(alg int, seed []byte) iter.Seq[[]byte] {
	return func(yield func([]byte) bool) {
		seeded := sha.Start(alg)
		seeded.Take(seed)
		for count := uint32(0); ; count++ {
			s := seeded
			s.Take([]byte{byte(count >> 24), byte(count >> 16), byte(count >> 8), byte(count)})
			if !yield(s.Sum()) {
				return
			}
		}
	}
}
