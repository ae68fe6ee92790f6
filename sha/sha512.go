package sha

import "math/bits"

// mix512 mixes a block into a state of SHA-512 or SHA-384.
func mix512(state [8]uint64, block []byte) [8]uint64 {
	a, b, c, d := state[0], state[1], state[2], state[3]
	e, f, g, h := state[4], state[5], state[6], state[7]
	for t, w := range words512(block) {
		t1 := h + turns64(e, 14, 18, 41) + (e&f ^ ^e&g) + adds512[t] + w
		t2 := turns64(a, 28, 34, 39) + (a&b ^ a&c ^ b&c)
		a, b, c, d, e, f, g, h = t1+t2, a, b, c, d+t1, e, f, g
	}
	for i, x := range [8]uint64{a, b, c, d, e, f, g, h} {
		state[i] += x
	}
	return state
}

func words512(block []byte) [80]uint64 {
	var w [80]uint64
	for t := range w {
		if t < 16 {
			w[t] = uint64(word32(block, 2*t))<<32 | uint64(word32(block, 2*t+1))
		} else {
			w[t] = moved64(w[t-2], 19, 61, 6) + w[t-7] + moved64(w[t-15], 1, 8, 7) + w[t-16]
		}
	}
	return w
}

// turns64 is x turned right by i, j and k bits.
func turns64(x uint64, i, j, k int) uint64 {
	return bits.RotateLeft64(x, -i) ^ bits.RotateLeft64(x, -j) ^ bits.RotateLeft64(x, -k)
}

// moved64 is x turned right by i and j bits, and moved right by k.
func moved64(x uint64, i, j, k int) uint64 {
	return bits.RotateLeft64(x, -i) ^ bits.RotateLeft64(x, -j) ^ x>>k
}
