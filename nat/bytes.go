package nat

import "chirograph/api"

// most is how many bytes a number's limbs have at the most.
const most = 4 * api.MaxLimbs

// FromBytes: the number of these bytes.
func FromBytes(b []byte) ([]uint32, api.Errno) {
	if len(b) > most {
		return nil, api.ErrLong
	}
	a := make([]uint32, (len(b)+3)/4)
	for i := range len(b) {
		a[i/4] |= uint32(b[len(b)-1-i]) << (i % 4 * 8)
	}
	return cut(a), api.OK
}

// Bytes: n bytes.
func Bytes(a []uint32, n int) ([]byte, api.Errno) {
	switch {
	case len(a) > api.MaxLimbs:
		return nil, api.ErrLong
	case n < 0, n > most:
		return nil, api.ErrArg
	case Bits(a) > 8*n:
		return nil, api.ErrLong
	}
	b := make([]byte, n)
	for i := range min(n, 4*length(a)) {
		b[n-1-i] = byte(a[i/4] >> (i % 4 * 8))
	}
	return b, api.OK
}
