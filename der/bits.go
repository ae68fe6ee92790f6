package der

import (
	"math/bits"

	"chirograph/api"
)

// Bits: a row of bits.
func Bits(data []byte) (b []byte, spare int, e api.Errno) {
	if !isBits(data) {
		return nil, 0, api.ErrForm
	}
	return copied(data[1:]), int(data[0]), api.OK
}

// Flags: a few bits as a number.
func Flags(data []byte) (uint32, api.Errno) {
	b, _, e := Bits(data)
	switch {
	case e != api.OK:
		return 0, e
	case len(b) > 4:
		return 0, api.ErrLong
	}
	n := uint32(0)
	for i, c := range b {
		n |= uint32(bits.Reverse8(c)) << (8 * i)
	}
	return n, api.OK
}

func isBits(data []byte) bool {
	if len(data) < 2 {
		return len(data) == 1 && data[0] == 0
	}
	last := data[len(data)-1]
	return data[0] <= 7 && last&(1<<data[0]-1) == 0
}
