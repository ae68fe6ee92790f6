package der_test

import (
	"math"
	"math/rand"
	"testing"

	"chirograph/api"
	"chirograph/der"
)

// P4.2: elements laid.

func TestPutHeads(t *testing.T) {
	wantPut(t, hx("02 01 05"), 0, 2, false, hx("05"))
	wantPut(t, hx("30 00"), 0, 16, true)
	wantPut(t, hx("80 00"), 2, 0, false)
	wantPut(t, hx("60 00"), 1, 0, true)
	wantPut(t, hx("01 00"), 0, 1, false)
	for _, c := range []struct {
		head string
		tag  int
	}{
		{"de", 30}, {"df 1f", 31}, {"df 7f", 127}, {"df 81 00", 128}, {"df ff 7f", 16383}, {"df 81 80 00", 16384},
		{"df ff ff 7f", 2097151}, {"df 81 80 80 00", 2097152}, {"df ff ff ff 7e", api.MaxTag - 1}, {"df ff ff ff 7f", api.MaxTag},
	} {
		wantPut(t, cat(hx(c.head), hx("00")), 3, c.tag, false)
		wantPut(t, cat(hx(c.head), hx("01 07")), 3, c.tag, false, hx("07"))
	}
	wantPut(t, hx("3f 87 68 00"), 0, 1000, true)
}

func TestPutLengths(t *testing.T) {
	for _, c := range []struct {
		length string
		n      int
	}{
		{"00", 0}, {"01", 1}, {"7f", 127}, {"81 80", 128}, {"81 ff", 255}, {"82 01 00", 256}, {"82 ff ff", 65535},
		{"83 01 00 00", 65536}, {"83 ff ff ff", api.MaxTotal - 1}, {"84 01 00 00 00", api.MaxTotal},
	} {
		wantPut(t, cat(hx("04"), hx(c.length), fill(c.n, 7)), 0, 4, false, fill(c.n, 7))
	}
}

// Data stand one behind the other, as they are handed in.
func TestPutData(t *testing.T) {
	wantPut(t, hx("bf 87 68 02 61 62"), 2, 1000, true, hx("61"), hx("62"))
	wantPut(t, hx("04 05 01 02 03 04 05"), 0, 4, false, hx("01 02"), nil, hx("03"), []byte{}, hx("04 05"))
	wantPut(t, hx("04 00"), 0, 4, false, nil, nil)
	wantPut(t, cat(hx("30 81 80"), fill(64, 1), fill(64, 2)), 0, 16, true, fill(64, 1), fill(64, 2))
	d := hx("61 62")
	wantPut(t, hx("04 06 61 62 61 62 61 62"), 0, 4, false, d, d, d)
	wantPut(t, hx("02 02 00 05"), 0, 2, false, hx("00 05"))
}

func TestPutArgs(t *testing.T) {
	for _, class := range []int{-1, 4, 64, 256, math.MinInt, math.MaxInt} {
		for _, tag := range []int{0, 2, api.MaxTag} {
			wantNoPut(t, api.ErrArg, class, tag, hx("05"))
		}
	}
	for class := range 4 {
		for _, tag := range []int{-1, api.MaxTag + 1, math.MinInt, math.MaxInt, 1 << 32, 1<<32 + 2} {
			wantNoPut(t, api.ErrArg, class, tag)
		}
	}
	wantNoPut(t, api.ErrArg, 0, 0)
	wantNoPut(t, api.ErrArg, 0, 0, hx("05"))
}

func TestPutLong(t *testing.T) {
	full := fill(api.MaxTotal, 7)
	half := full[:api.MaxTotal/2]
	wantNoPut(t, api.ErrLong, 0, 4, full, hx("07"))
	wantNoPut(t, api.ErrLong, 0, 4, hx("07"), full)
	wantNoPut(t, api.ErrLong, 0, 4, half, half, nil, hx("07"))
	wantNoPut(t, api.ErrLong, 2, api.MaxTag, full, full, full)
	wantNoPut(t, api.ErrLong, 0, 4, append(full, 7))
	wantPut(t, cat(hx("04 84 01 00 00 00"), full), 0, 4, false, half, nil, half)
	wantNoPut(t, api.ErrArg, 0, 0, full, hx("07"))
	wantNoPut(t, api.ErrArg, 4, 1, full, hx("07"))
}

// Elements by chance against a second writing; what is put is split (P4.6).
func TestPutModel(t *testing.T) {
	r := rand.New(rand.NewSource(42))
	for range 20000 {
		class, tag, cons := r.Intn(4), r.Intn(1<<r.Intn(29)), r.Intn(2) == 0
		if class == 0 && tag == 0 {
			tag = 1
		}
		var data []byte
		var pieces [][]byte
		for range r.Intn(4) {
			d := fill(r.Intn(150), byte(r.Intn(256)))
			pieces, data = append(pieces, d), append(data, d...)
		}
		b := modelPut(class, tag, cons, data)
		wantPut(t, b, class, tag, cons, pieces...)
		x := api.Tlv{Class: class, Tag: tag, Cons: cons, Data: data, Raw: b}
		wantSplit(t, b, x)
		wantSplit(t, cat(b, b), x, x)
	}
}

// P4.6: as long an element as may be split.
func TestPutSplitLongest(t *testing.T) {
	data := fill(api.MaxTotal-5, 7)
	b, e := der.Put(0, 4, false, data)
	if e != api.OK {
		t.Fatal(e)
	}
	wantSplit(t, b, tlv(0, 4, false, "04 83 ff ff fb", data))
}
