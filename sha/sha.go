// Package sha reckons the digests of shared/doc/02-digest.md (P2.3), of
// messages of any length. It stands beneath package digest, whose calls take
// MaxTotal bytes at the most, for those layers whose chapters know no such
// bound.
package sha

import "chirograph/api"

// State is a digest under way. It keeps what the full blocks have made of the
// state and the bytes behind them, not the message; a copy goes on by itself.
type State struct {
	alg   int
	total int
	words [8]uint32 // the state of SHA-1 and SHA-256
	wide  [8]uint64 // the state of SHA-384 and SHA-512
	rest  [128]byte // the first ones, total modulo the block, count
}

// Size: how many bytes a digest has; 0, if there is no such alg.
func Size(alg int) int {
	switch alg {
	case api.Sha1:
		return 20
	case api.Sha256:
		return 32
	case api.Sha384:
		return 48
	case api.Sha512:
		return 64
	}
	return 0
}

// Block: how many bytes a block has; 0, if there is no such alg.
func Block(alg int) int {
	switch alg {
	case api.Sha1, api.Sha256:
		return 64
	case api.Sha384, api.Sha512:
		return 128
	}
	return 0
}

// Start: one that was handed nothing; where there is no such alg, one that
// takes nothing, and whose digest has no bytes.
func Start(alg int) State {
	s := State{alg: alg}
	switch alg {
	case api.Sha1:
		s.words = first1
	case api.Sha256:
		s.words = first256
	case api.Sha384:
		s.wide = first384
	case api.Sha512:
		s.wide = first512
	}
	return s
}

// Alg: which.
func (s *State) Alg() int {
	return s.alg
}

// Len: how many bytes it was handed.
func (s *State) Len() int {
	return s.total
}

// Take: more bytes.
func (s *State) Take(b []byte) {
	block := Block(s.alg)
	if block == 0 {
		return
	}
	held := s.total % block
	s.total += len(b)
	if held > 0 {
		n := copy(s.rest[held:block], b)
		if held+n < block {
			return
		}
		s.mix(s.rest[:block])
		b = b[n:]
	}
	for ; len(b) >= block; b = b[block:] {
		s.mix(b[:block])
	}
	copy(s.rest[:], b)
}

// Sum: the digest of what it was handed. A copy is filled up, so that s may go
// on.
func (s State) Sum() []byte {
	if block := Block(s.alg); block > 0 {
		s.Take(filling(s.total, block))
	}
	return s.bytes()
}

func (s *State) mix(block []byte) {
	switch s.alg {
	case api.Sha1:
		s.words = mix1(s.words, block)
	case api.Sha256:
		s.words = mix256(s.words, block)
	default:
		s.wide = mix512(s.wide, block)
	}
}

// filling is what fills up a message of total bytes.
func filling(total, block int) []byte {
	count := block / 8 // 8 bytes of 64, 16 of 128 tell how many bits there are
	f := make([]byte, block-(total+count)%block+count)
	f[0] = 0x80
	for i, n := len(f)-1, uint64(total)*8; n > 0; i, n = i-1, n>>8 {
		f[i] = byte(n)
	}
	return f
}

// bytes has the state's bytes, as many as the digest has.
func (s *State) bytes() []byte {
	b := make([]byte, Size(s.alg))
	for i := range b {
		if Block(s.alg) == 64 {
			b[i] = byte(s.words[i/4] >> (24 - i%4*8))
		} else {
			b[i] = byte(s.wide[i/8] >> (56 - i%8*8))
		}
	}
	return b
}
