package sha

import "math/bits"

// mix256 mixes a block into a state of SHA-256.
func mix256(state [8]uint32, block []byte) [8]uint32 {
	a, b, c, d := state[0], state[1], state[2], state[3]
	e, f, g, h := state[4], state[5], state[6], state[7]
	for t, w := range words256(block) {
		t1 := h + turns32(e, 6, 11, 25) + (e&f ^ ^e&g) + adds256[t] + w
		t2 := turns32(a, 2, 13, 22) + (a&b ^ a&c ^ b&c)
		a, b, c, d, e, f, g, h = t1+t2, a, b, c, d+t1, e, f, g
	}
	for i, x := range [8]uint32{a, b, c, d, e, f, g, h} {
		state[i] += x
	}
	return state
}

func words256(block []byte) [64]uint32 {
	var w [64]uint32
	for t := range w {
		if t < 16 {
			w[t] = word32(block, t)
		} else {
			w[t] = moved32(w[t-2], 17, 19, 10) + w[t-7] + moved32(w[t-15], 7, 18, 3) + w[t-16]
		}
	}
	return w
}

// turns32 is x turned right by i, j and k bits.
func turns32(x uint32, i, j, k int) uint32 {
	return bits.RotateLeft32(x, -i) ^ bits.RotateLeft32(x, -j) ^ bits.RotateLeft32(x, -k)
}

// moved32 is x turned right by i and j bits, and moved right by k.
func moved32(x uint32, i, j, k int) uint32 {
	return bits.RotateLeft32(x, -i) ^ bits.RotateLeft32(x, -j) ^ x>>k
}
