package der_test

import (
	"math/rand"
	"testing"

	"chirograph/api"
)

// P4.4: bits.

func TestBits(t *testing.T) {
	for _, c := range []struct {
		data, b string
		spare   int
	}{
		{"00", "", 0}, {"00 ff", "ff", 0}, {"00 00", "00", 0}, {"03 f8", "f8", 3}, {"07 80", "80", 7}, {"07 00", "00", 7}, {"01 fe", "fe", 1},
		{"05 ff e0", "ff e0", 5}, {"00 01 02 03 04 05", "01 02 03 04 05", 0},
	} {
		wantBits(t, hx(c.data), hx(c.b), c.spare, api.OK)
	}
	long := cat(hx("04"), fill(100000, 0xf0))
	wantBits(t, long, long[1:], 4, api.OK)
}

func TestBitsFaults(t *testing.T) {
	for _, data := range []string{"", "01", "07", "08", "ff", "08 00", "80 00", "ff 00", "08 00 00", "03 ff", "03 04", "01 01", "07 40", "07 01",
		"02 00 02", "05 ff 10", "09 00 00"} {
		wantBits(t, hx(data), nil, 0, api.ErrForm)
		wantFlags(t, hx(data), 0, api.ErrForm)
	}
}

func TestFlags(t *testing.T) {
	for _, c := range []struct {
		data string
		n    uint32
	}{
		{"00", 0}, {"05 a0", 5}, {"07 80", 1}, {"00 01", 128}, {"07 00 80", 256}, {"00 80 00", 1}, {"00 00 00 00 01", 1 << 31}, {"00 ff ff ff ff", 0xffffffff},
		{"00 06", api.UseCertSign | api.UseCrlSign}, {"06 c0", api.UseSign | api.UseContent}, {"04 12 34 56 70", 0xe6a2c48},
	} {
		wantFlags(t, hx(c.data), c.n, api.OK)
	}
	wantFlags(t, hx("00 00 00 00 00 00"), 0, api.ErrLong)
	wantFlags(t, hx("07 00 00 00 00 80"), 0, api.ErrLong)
	wantFlags(t, cat(hx("00"), fill(1000, 0)), 0, api.ErrLong)
	wantFlags(t, hx("07 00 00 00 00 40"), 0, api.ErrForm)
	wantFlags(t, hx("08 00 00 00 00 00"), 0, api.ErrForm)
}

// All of up to two bytes, and longer ones by chance, against texts of bits.
func TestBitsModel(t *testing.T) {
	for a := range 256 {
		bitsLikeModel(t, []byte{byte(a)})
		for b := range 256 {
			bitsLikeModel(t, []byte{byte(a), byte(b)})
			bitsLikeModel(t, []byte{byte(a), 0xff, byte(b)})
		}
	}
	r := rand.New(rand.NewSource(11))
	for range 50000 {
		data := make([]byte, 1+r.Intn(6))
		for i := range data {
			data[i] = byte(r.Intn(256))
		}
		data[0] = byte(r.Intn(9))
		data[len(data)-1] <<= r.Intn(9)
		bitsLikeModel(t, data)
	}
}

func bitsLikeModel(t *testing.T, data []byte) {
	t.Helper()
	b, spare, e := modelBits(data)
	wantBits(t, data, b, spare, e)
	n, e := modelFlags(data)
	wantFlags(t, data, n, e)
}
