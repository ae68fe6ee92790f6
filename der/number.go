package der

import (
	"chirograph/api"
	"chirograph/nat"
)

// Bool: yes or no.
func Bool(data []byte) (bool, api.Errno) {
	if len(data) != 1 || data[0] != 0 && data[0] != 0xff {
		return false, api.ErrForm
	}
	return data[0] == 0xff, api.OK
}

// Int: a small number.
func Int(data []byte) (int, api.Errno) {
	if !isInt(data) {
		return 0, api.ErrForm
	}
	if len(data) > 8 {
		return 0, api.ErrLong
	}
	n := int(int8(data[0])) // the first bit is the sign of the whole
	for _, c := range data[1:] {
		n = n<<8 | int(c)
	}
	return n, api.OK
}

// PutInt: its bytes.
func PutInt(n int) []byte {
	count := 1
	for rest := n >> 7; rest != 0 && rest != -1; rest >>= 8 {
		count++
	}
	b := make([]byte, count)
	for i := range b {
		b[i] = byte(n >> (8 * (count - 1 - i)))
	}
	return b
}

// Uint: a number that is not below 0.
func Uint(data []byte) ([]uint32, api.Errno) {
	switch {
	case !isInt(data):
		return nil, api.ErrForm
	case data[0] >= 0x80:
		return nil, api.ErrNeg
	case data[0] == 0:
		data = data[1:]
	}
	return nat.FromBytes(data)
}

// PutUint: its bytes. (nat.Bytes refuses lists above its limit, whatever their
// value.)
func PutUint(n []uint32) []byte {
	count := nat.Bits(n)/8 + 1 // the highest bit of all is the sign: 0
	b := make([]byte, count)
	for i := range min(count, 4*len(n)) {
		b[count-1-i] = byte(n[i/4] >> (i % 4 * 8))
	}
	return b
}

func isInt(data []byte) bool {
	if len(data) < 2 {
		return len(data) == 1
	}
	negative := data[1] >= 0x80
	return !(data[0] == 0 && !negative || data[0] == 0xff && negative)
}
