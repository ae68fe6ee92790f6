package digest

import "chirograph/api"

// take puts b behind what was handed, with no regard to MaxTotal: the bytes
// that fill up a message of MaxTotal bytes go this way too.
func (h *Hash) take(b []byte) {
	block := Block(h.alg)
	held := h.total % block
	h.total += len(b)
	if held > 0 {
		n := copy(h.rest[held:block], b)
		if held+n < block {
			return
		}
		h.mix(h.rest[:block])
		b = b[n:]
	}
	for ; len(b) >= block; b = b[block:] {
		h.mix(b[:block])
	}
	copy(h.rest[:], b)
}

func (h *Hash) mix(block []byte) {
	switch h.alg {
	case api.Sha1:
		h.words = mix1(h.words, block)
	case api.Sha256:
		h.words = mix256(h.words, block)
	default:
		h.wide = mix512(h.wide, block)
	}
}

// filling is what fills up a message of total bytes.
func filling(total, block int) []byte {
	count := block / 8 // 8 bytes of 64, 16 of 128 tell how many bits there are
	f := make([]byte, block-(total+count)%block+count)
	f[0] = 0x80
	for i, n := len(f)-1, uint64(total)*8; n > 0; i, n = i-1, n>>8 {
		f[i] = byte(n)
	}
	return f
}

// state has the state's bytes, as many as the digest has.
func (h *Hash) state() []byte {
	s := make([]byte, Size(h.alg))
	for i := range s {
		if Block(h.alg) == 64 {
			s[i] = byte(h.words[i/4] >> (24 - i%4*8))
		} else {
			s[i] = byte(h.wide[i/8] >> (56 - i%8*8))
		}
	}
	return s
}
