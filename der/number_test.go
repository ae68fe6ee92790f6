package der_test

import (
	"math"
	"math/big"
	"math/rand"
	"slices"
	"testing"

	"chirograph/api"
	"chirograph/der"
)

// P4.3: numbers, there and back (P4.6).

func TestBool(t *testing.T) {
	for c := range 256 {
		e := api.ErrForm
		if c == 0 || c == 255 {
			e = api.OK
		}
		wantBool(t, []byte{byte(c)}, c == 255, e)
		wantBool(t, []byte{byte(c), byte(c)}, false, api.ErrForm)
	}
	wantBool(t, nil, false, api.ErrForm)
	wantBool(t, hx("ff 00"), false, api.ErrForm)
	wantBool(t, hx("00 ff"), false, api.ErrForm)
}

func TestInt(t *testing.T) {
	for _, c := range []struct {
		data string
		n    int
	}{
		{"00", 0}, {"01", 1}, {"7f", 127}, {"80", -128}, {"ff", -1}, {"00 80", 128}, {"00 ff", 255}, {"01 00", 256}, {"ff 7f", -129},
		{"ff 00", -256}, {"fe ff", -257}, {"7f ff", 32767}, {"80 00", -32768}, {"00 80 00", 32768}, {"ff 7f ff", -32769},
		{"00 ff ff ff ff", 4294967295}, {"80 00 00 00", math.MinInt32}, {"7f ff ff ff ff ff ff ff", math.MaxInt64},
		{"80 00 00 00 00 00 00 00", math.MinInt64}, {"00 80 00 00 00 00 00 00", 1 << 55}, {"ff 7f ff ff ff ff ff ff", -1<<55 - 1},
	} {
		wantInt(t, hx(c.data), c.n, api.OK)
	}
}

func TestIntFaults(t *testing.T) {
	for _, data := range []string{"", "00 00", "00 05", "00 7f", "ff ff", "ff 80", "00 00 80", "ff ff 7f", "00 7f ff",
		"00 00 00 00 00 00 00 00 01", "ff ff 00 00 00 00 00 00 00", "00 7f 00 00 00 00 00 00 00"} {
		wantInt(t, hx(data), 0, api.ErrForm)
		wantUint(t, hx(data), nil, api.ErrForm)
	}
	for _, data := range []string{"01 00 00 00 00 00 00 00 00", "00 80 00 00 00 00 00 00 00", "00 ff ff ff ff ff ff ff ff",
		"ff 7f ff ff ff ff ff ff ff", "80 00 00 00 00 00 00 00 00", "01 00 00 00 00 00 00 00 00 00"} {
		wantInt(t, hx(data), 0, api.ErrLong)
	}
}

// All numbers of up to two bytes, and those of more by chance, against great
// numbers.
func TestIntModel(t *testing.T) {
	for a := range 256 {
		intLikeModel(t, []byte{byte(a)})
		for b := range 256 {
			intLikeModel(t, []byte{byte(a), byte(b)})
			intLikeModel(t, []byte{byte(a), byte(b), byte(a)})
		}
	}
	r := rand.New(rand.NewSource(7))
	for range 50000 {
		data := make([]byte, r.Intn(12))
		for i := range data {
			data[i] = pick(r, 0, 0x7f, 0x80, 0xff, byte(r.Intn(256)))
		}
		intLikeModel(t, data)
	}
}

func intLikeModel(t *testing.T, data []byte) {
	t.Helper()
	switch {
	case !modelIntForm(data):
		wantInt(t, data, 0, api.ErrForm)
		wantUint(t, data, nil, api.ErrForm)
		return
	case len(data) > 8:
		wantInt(t, data, 0, api.ErrLong)
	default:
		wantInt(t, data, int(modelInt(data).Int64()), api.OK)
	}
	if data[0] >= 128 {
		wantUint(t, data, nil, api.ErrNeg)
	} else {
		wantUint(t, data, limbs(modelInt(data)), api.OK)
	}
}

// limbs has the limbs of a number, the lowest first.
func limbs(n *big.Int) []uint32 {
	var l []uint32
	for v := new(big.Int).Set(n); v.Sign() > 0; v.Rsh(v, 32) {
		l = append(l, uint32(new(big.Int).And(v, big.NewInt(math.MaxUint32)).Uint64()))
	}
	return l
}

// Numbers about each power of two go there and back.
func TestIntThereAndBack(t *testing.T) {
	for k := range 63 {
		for d := -2; d <= 2; d++ {
			for _, n := range []int{1<<k + d, -1<<k + d} {
				if got, e := der.Int(der.PutInt(n)); got != n || e != api.OK {
					t.Errorf("Int(PutInt(%d)): %d, error %d", n, got, e)
				}
			}
		}
	}
	for _, n := range []int{math.MinInt, math.MinInt + 1, math.MaxInt - 1, math.MaxInt} {
		if got, e := der.Int(der.PutInt(n)); got != n || e != api.OK || len(der.PutInt(n)) != 8 {
			t.Errorf("Int(PutInt(%d)): %d, error %d", n, got, e)
		}
	}
}

func TestUint(t *testing.T) {
	for _, c := range []struct {
		data string
		n    []uint32
	}{
		{"00", nil}, {"01", []uint32{1}}, {"7f", []uint32{127}}, {"00 80", []uint32{128}}, {"00 ff", []uint32{255}}, {"01 00", []uint32{256}},
		{"7f ff ff ff", []uint32{0x7fffffff}}, {"00 80 00 00 00", []uint32{0x80000000}}, {"00 ff ff ff ff", []uint32{0xffffffff}},
		{"01 00 00 00 00", []uint32{0, 1}}, {"01 02 03 04 05 06 07 08 09", []uint32{0x06070809, 0x02030405, 1}},
	} {
		wantUint(t, hx(c.data), c.n, api.OK)
	}
	for _, data := range []string{"80", "ff", "80 00", "ff 7f", "ff 00", "c0 00 00 00 00 00 00 00 00 00"} {
		wantUint(t, hx(data), nil, api.ErrNeg)
	}
}

func TestUintLongest(t *testing.T) {
	const most = 4 * api.MaxLimbs
	full := slices.Repeat([]uint32{0xffffffff}, api.MaxLimbs)
	wantUint(t, cat(hx("00"), fill(most, 255)), full, api.OK)
	full[api.MaxLimbs-1] = 0x7fffffff
	wantUint(t, cat(hx("7f"), fill(most-1, 255)), full, api.OK)
	wantUint(t, cat(hx("01"), fill(most, 255)), nil, api.ErrLong)
	wantUint(t, cat(hx("7f"), fill(most, 0)), nil, api.ErrLong)
	wantUint(t, cat(hx("00"), fill(most+1, 255)), nil, api.ErrLong)
	wantUint(t, cat(hx("00"), fill(most+1, 0)), nil, api.ErrForm)
	wantUint(t, cat(hx("00 7f"), fill(most+1, 0)), nil, api.ErrForm)
	wantUint(t, fill(most+1, 0x80), nil, api.ErrNeg)
	wantUint(t, fill(most+1, 0xff), nil, api.ErrForm)
}

// Limbs 0 at the end count nothing, and a list may be of any length.
func TestPutUint(t *testing.T) {
	wantPutUint(t, nil, hx("00"))
	wantPutUint(t, []uint32{0}, hx("00"))
	wantPutUint(t, make([]uint32, 2*api.MaxLimbs), hx("00"))
	wantPutUint(t, []uint32{255, 0, 0}, hx("00 ff"))
	wantPutUint(t, append([]uint32{5}, make([]uint32, api.MaxLimbs)...), hx("05"))
	wantPutUint(t, slices.Repeat([]uint32{0xffffffff}, api.MaxLimbs+1), cat(hx("00"), fill(4*api.MaxLimbs+4, 255)))
	wantPutUint(t, append(make([]uint32, 3*api.MaxLimbs), 1), cat(hx("01"), fill(12*api.MaxLimbs, 0)))
	wantPutUint(t, append(make([]uint32, 1<<16), 0x80), cat(hx("00 80"), fill(4<<16, 0)))
}

func TestUintModel(t *testing.T) {
	r := rand.New(rand.NewSource(9))
	for range 5000 {
		n := new(big.Int).Rand(r, new(big.Int).Lsh(big.NewInt(1), uint(r.Intn(32*api.MaxLimbs+1))))
		data := n.Bytes()
		if n.BitLen()%8 == 0 {
			data = cat(hx("00"), data)
		}
		wantUint(t, data, limbs(n), api.OK)
		wantPutUint(t, append(limbs(n), 0), data)
	}
}
