package der_test

import (
	"bytes"
	"math/rand"
	"testing"

	"chirograph/api"
	"chirograph/der"
)

// P4.1: rows of elements.

func TestSplitRows(t *testing.T) {
	wantSplit(t, nil)
	wantSplit(t, hx("05 00"), tlv(0, 5, false, "05 00", nil))
	wantSplit(t, hx("02 01 05 30 02 05 00"), tlv(0, 2, false, "02 01", hx("05")), tlv(0, 16, true, "30 02", hx("05 00")))
	wantSplit(t, hx("05 00 05 00 05 00"), tlv(0, 5, false, "05 00", nil), tlv(0, 5, false, "05 00", nil), tlv(0, 5, false, "05 00", nil))
	wantSplit(t, hx("30 00"), tlv(0, 16, true, "30 00", nil))
	for class := range 4 {
		for _, cons := range []bool{false, true} {
			first := byte(class << 6)
			if cons {
				first |= 0x20
			}
			raw := []byte{first | 9, 2, 7, 8}
			wantSplit(t, raw, api.Tlv{Class: class, Tag: 9, Cons: cons, Data: raw[2:], Raw: raw})
			if class > 0 {
				raw = []byte{first, 1, 7}
				wantSplit(t, raw, api.Tlv{Class: class, Cons: cons, Data: raw[2:], Raw: raw})
			}
		}
	}
}

// What is in an element is not looked at, what a Cons one is made of neither.
func TestSplitLooksNotWithin(t *testing.T) {
	wantSplit(t, hx("30 01 05"), tlv(0, 16, true, "30 01", hx("05")))
	wantSplit(t, hx("30 02 00 00"), tlv(0, 16, true, "30 02", hx("00 00")))
	wantSplit(t, hx("30 04 30 80 00 00"), tlv(0, 16, true, "30 04", hx("30 80 00 00")))
	wantSplit(t, hx("31 06 02 01 07 02 01 05"), tlv(0, 17, true, "31 06", hx("02 01 07 02 01 05")))
	wantSplit(t, hx("02 02 00 05"), tlv(0, 2, false, "02 02", hx("00 05")))
	wantSplit(t, hx("01 01 05"), tlv(0, 1, false, "01 01", hx("05")))
	wantSplit(t, hx("10 00"), tlv(0, 16, false, "10 00", nil))
	wantSplit(t, hx("22 00"), tlv(0, 2, true, "22 00", nil))
	wantSplit(t, hx("07 00 0f 00"), tlv(0, 7, false, "07 00", nil), tlv(0, 15, false, "0f 00", nil))
}

func TestSplitTags(t *testing.T) {
	for _, c := range []struct {
		head string
		tag  int
	}{
		{"5e", 30}, {"5f 1f", 31}, {"5f 7f", 127}, {"5f 81 00", 128}, {"5f ff 7f", 16383}, {"5f 81 80 00", 16384},
		{"5f ff ff 7f", 2097151}, {"5f 81 80 80 00", 2097152}, {"5f ff ff ff 7f", api.MaxTag}, {"5f ff ff ff 7e", api.MaxTag - 1},
	} {
		wantSplit(t, hx(c.head+"01 2a"), tlv(1, c.tag, false, c.head+"01", hx("2a")))
	}
	wantSplit(t, hx("1f 1f 00"), tlv(0, 31, false, "1f 1f 00", nil))
	wantSplit(t, hx("ff 1f 00"), tlv(3, 31, true, "ff 1f 00", nil))
}

func TestSplitTagFaults(t *testing.T) {
	for _, c := range []struct {
		b  string
		at int
	}{
		{"1f 80 01 00", 1}, {"1f 80", 1}, {"5f 80 80 1f 00", 1},
		{"5f 00 00", 1}, {"5f 1e 00", 1}, {"5f 1e", 1}, {"1f 00", 1}, {"5f 01", 1},
		{"5f 81 80 80 80 00 00", 5}, {"5f ff ff ff ff 7f 00", 5}, {"5f 81 80 80 80 80 80", 5}, {"5f 81 80 80 80 00", 5},
		{"00", 0}, {"00 00", 0}, {"20", 0}, {"20 00", 0}, {"00 01 05", 0}, {"20 80 00 00", 0},
		{"05 00 00 00", 2}, {"05 00 5f 80", 3}, {"30 00 5f 81 80 80 80 00", 7},
	} {
		wantNoSplit(t, hx(c.b), api.ErrTag, c.at)
	}
}

func TestSplitLengths(t *testing.T) {
	for _, c := range []struct {
		front string
		n     int
	}{
		{"04 00", 0}, {"04 01", 1}, {"04 7f", 127}, {"04 81 80", 128}, {"04 81 ff", 255}, {"04 82 01 00", 256}, {"24 82 01 2c", 300},
		{"04 82 ff ff", 65535}, {"30 83 01 00 00", 65536},
	} {
		b := hx(c.front)
		x := tlv(0, int(b[0]&31), b[0]&32 != 0, c.front, fill(c.n, 7))
		wantSplit(t, x.Raw, x)
		y := tlv(0, 5, false, "05 00", nil)
		wantSplit(t, cat(x.Raw, y.Raw, x.Raw), x, y, x)
	}
}

// A length that could be laid in fewer bytes is none.
func TestSplitLengthsTooLong(t *testing.T) {
	for _, c := range []struct {
		front string
		n     int
	}{
		{"04 81 00", 0}, {"04 81 01", 1}, {"04 81 7f", 127}, {"30 81 01", 1}, {"04 82 00 00", 0}, {"04 82 00 05", 5}, {"04 82 00 80", 128},
		{"04 82 00 ff", 255}, {"30 83 00 01 00", 256}, {"04 84 00 00 01 2c", 300}, {"04 89 00 00 00 00 00 00 00 01 00", 256},
		{"04 88 00 00 00 00 00 00 00 00", 0}, {"04 82 00 80", 0}, {"04 83 00 ff ff", 0},
	} {
		wantNoSplit(t, cat(hx(c.front), fill(c.n, 7)), api.ErrSize, 1)
		wantNoSplit(t, cat(hx("05 00"), hx(c.front), fill(c.n, 7), hx("05 00")), api.ErrSize, 3)
		wantNoSplit(t, cat(hx("5f 81 00"), hx(c.front)[1:], fill(c.n, 7)), api.ErrSize, 3)
	}
	wantNoSplit(t, cat(hx("04 fe"), make([]byte, 126)), api.ErrSize, 1)
	wantNoSplit(t, cat(hx("04 fe"), make([]byte, 125), hx("02 61 62")), api.ErrSize, 1)
}

func TestSplitSizeFaults(t *testing.T) {
	for _, c := range []struct {
		b  string
		at int
	}{
		{"02 81 01 05", 1}, {"24 80 00 00", 1}, {"30 80", 1}, {"04 80", 1}, {"04 80 00 00", 1}, {"04 ff", 1}, {"30 ff 00", 1},
		{"05 00 04 02 01", 3}, {"04 01", 1}, {"04 02 01", 1}, {"30 7f 05 00", 1}, {"04 81 80", 1}, {"04 82 01 00 00", 1},
		{"04 83 ff ff ff", 1}, {"04 84 ff ff ff ff", 1}, {"04 88 ff ff ff ff ff ff ff ff 00", 1}, {"04 88 80 00 00 00 00 00 00 00 00", 1},
		{"04 89 01 00 00 00 00 00 00 00 00 00", 1}, {"04 89 01 00 00 00 00 00 00 00 01 61", 1}, {"5f 81 00 01", 3}, {"05 00 5f 1f 80", 4},
	} {
		wantNoSplit(t, hx(c.b), api.ErrSize, c.at)
	}
	wantNoSplit(t, cat(hx("04 81 80"), fill(127, 7)), api.ErrSize, 1)
	wantNoSplit(t, cat(hx("04 fe"), fill(126, 1)), api.ErrSize, 1)
	wantNoSplit(t, cat(hx("04 89 01 00 00 00 00 00 00 00 80"), fill(128, 7)), api.ErrSize, 1)
	wantNoSplit(t, cat(hx("04 85 01 00 00 00 80"), fill(128, 7)), api.ErrSize, 1)
}

// A byte that is needed and is not there: all that is cut within its head or
// its length.
func TestSplitShort(t *testing.T) {
	for _, c := range []string{
		"05", "1f", "5f 81", "5f ff ff ff", "5f 1f", "04 81", "04 82", "04 82 01", "04 84 01 02 03", "30 81", "30 82 80", "05 00 05",
		"30 01 61 1f", "04 82 00", "04 84 00 00 00",
	} {
		wantNoSplit(t, hx(c), api.ErrShort, len(hx(c)))
	}
	wantNoSplit(t, cat(hx("04 fe"), fill(125, 1)), api.ErrShort, 127)
}

// The first fault from the left is told.
func TestSplitFirstFault(t *testing.T) {
	wantNoSplit(t, hx("04 80 00 00 ff"), api.ErrSize, 1)
	wantNoSplit(t, hx("05 00 00 81 01 05"), api.ErrTag, 2)
	wantNoSplit(t, hx("05 01 05 05 81 00 00"), api.ErrSize, 4)
	wantNoSplit(t, hx("1f 80 80"), api.ErrTag, 1)
}

func TestSplitTotal(t *testing.T) {
	b := cat(hx("04 83 ff ff fb"), fill(api.MaxTotal-5, 7))
	wantSplit(t, b, tlv(0, 4, false, "04 83 ff ff fb", b[5:]))
	wantNoSplit(t, append(b, 5), api.ErrLong, 0)
	wantNoSplit(t, fill(api.MaxTotal+1, 0), api.ErrLong, 0)
	wantNoSplit(t, fill(api.MaxTotal, 0), api.ErrTag, 0)
	half := cat(hx("04 83 7f ff fb"), fill(api.MaxTotal/2-5, 7))
	x := tlv(0, 4, false, "04 83 7f ff fb", half[5:])
	wantSplit(t, cat(half, half), x, x)
}

func TestSplitMany(t *testing.T) {
	full := bytes.Repeat(hx("05 00"), api.MaxElems)
	l, e, at := der.Split(full)
	if len(l) != api.MaxElems || e != api.OK || at != len(full) {
		t.Errorf("Split of MaxElems: %d elements, error %d at %d", len(l), e, at)
	}
	for _, more := range []string{"05 00", "05", "00", "04 ff", "05 00 05 00"} {
		wantNoSplit(t, cat(full, hx(more)), api.ErrMany, len(full))
	}
	short := full[:len(full)-2]
	wantNoSplit(t, cat(short, hx("05")), api.ErrShort, len(short)+1)
	wantNoSplit(t, cat(short, hx("04 80 05 00 05 00")), api.ErrSize, len(short)+1)
	if x, e := der.One(full); e != api.ErrMany || !isZero(x) {
		t.Errorf("One of MaxElems: error %d", e)
	}
	inner := cat(hx("30 83 02 00 02"), full, hx("05 00"))
	wantSplit(t, inner, tlv(0, 16, true, "30 83 02 00 02", inner[5:]))
}

// All short rows, and rows by chance, against a second writing of P4.1.
func TestSplitModel(t *testing.T) {
	for a := range 256 {
		for b := range 256 {
			likeModel(t, []byte{byte(a), byte(b)})
			for _, c := range []byte{0, 1, 2, 5, 30, 31, 0x7f, 0x80, 0x81, 0x82, 0xfe, 0xff} {
				likeModel(t, []byte{byte(a), byte(b), c})
				likeModel(t, []byte{byte(a), byte(b), c, c})
				likeModel(t, []byte{byte(a), byte(b), c, 1, 0})
			}
		}
		likeModel(t, []byte{byte(a)})
	}
	r := rand.New(rand.NewSource(4))
	for range 200000 {
		b := anyRow(r)
		likeModel(t, b)
		if len(b) > 0 {
			likeModel(t, b[:r.Intn(len(b))])
			b[r.Intn(len(b))] = pick(r, 0, 1, 0x1f, 0x7f, 0x80, 0x81, 0xff, byte(r.Intn(256)))
			likeModel(t, b)
		}
	}
}

func likeModel(t *testing.T, b []byte) {
	t.Helper()
	if l, e, at := modelSplit(b); e != api.OK {
		wantNoSplit(t, b, e, at)
	} else {
		wantSplit(t, b, l...)
	}
}
