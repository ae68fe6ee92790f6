package realm

import "iter"

// masked tells what is left of an address under a mask that is as long, byte by
// byte, for as long as one asks.
func masked(address, mask []byte) iter.Seq2[int, byte] {
	return func(yield func(int, byte) bool) {
		for i, b := range address {
			if !yield(i, b&mask[i]) {
				return
			}
		}
	}
}
