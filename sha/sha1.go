package sha

import "math/bits"

// mix1 mixes a block into a state of SHA-1.
func mix1(state [8]uint32, block []byte) [8]uint32 {
	a, b, c, d, e := state[0], state[1], state[2], state[3], state[4]
	for t, w := range words1(block) {
		sum := bits.RotateLeft32(a, 5) + choose1(t, b, c, d) + e + adds1[t/20] + w
		a, b, c, d, e = sum, a, bits.RotateLeft32(b, 30), c, d
	}
	state[0] += a
	state[1] += b
	state[2] += c
	state[3] += d
	state[4] += e
	return state
}

func words1(block []byte) [80]uint32 {
	var w [80]uint32
	for t := range w {
		if t < 16 {
			w[t] = word32(block, t)
		} else {
			w[t] = bits.RotateLeft32(w[t-3]^w[t-8]^w[t-14]^w[t-16], 1)
		}
	}
	return w
}

func choose1(t int, b, c, d uint32) uint32 {
	switch t / 20 {
	case 0:
		return b&c | ^b&d
	case 2:
		return b&c | b&d | c&d
	}
	return b ^ c ^ d
}

// word32 is a block's word t.
func word32(block []byte, t int) uint32 {
	b := block[4*t : 4*t+4]
	return uint32(b[0])<<24 | uint32(b[1])<<16 | uint32(b[2])<<8 | uint32(b[3])
}
