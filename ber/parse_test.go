package ber_test

import (
	"math/rand"
	"slices"
	"testing"

	"chirograph/api"
	"chirograph/ber"
)

// P3.2, P3.3: what is read.

func TestParseRows(t *testing.T) {
	wantParse(t, hx("05 00"), []api.Elem{{Tag: 5}})
	wantParse(t, hx("30 80 02 01 05 00 00"), []api.Elem{in(0, 16), of(1, 2, "05")})
	wantParse(t, hx("30 00"), []api.Elem{in(0, 16)})
	wantParse(t, hx("30 80 00 00"), []api.Elem{in(0, 16)})
	wantParse(t, hx("30 0a 31 04 04 02 61 62 05 00 a1 00"), []api.Elem{
		in(0, 16), in(1, 17), of(2, 4, "6162"), of(1, 5, ""), {Depth: 1, Class: api.Context, Tag: 1, Cons: true}})
	for class := range 4 {
		wantParse(t, []byte{byte(class<<6 | 0x20 | 1), 3, byte(class<<6 | 2), 1, 9}, []api.Elem{
			{Class: class, Tag: 1, Cons: true}, {Depth: 1, Class: class, Tag: 2, Data: []byte{9}}})
	}
	for class := 1; class < 4; class++ {
		wantParse(t, []byte{byte(class << 6), 1, 7}, []api.Elem{{Class: class, Data: []byte{7}}})
	}
}

// Parse asks only how elements are laid, not what is in them.
func TestParseAsksNoForms(t *testing.T) {
	wantParse(t, hx("02 02 00 05"), []api.Elem{of(0, 2, "0005")})
	wantParse(t, hx("22 02 05 00"), []api.Elem{in(0, 2), of(1, 5, "")})
	wantParse(t, hx("10 01 ff"), []api.Elem{of(0, 16, "ff")})
	wantParse(t, hx("07 00"), []api.Elem{of(0, 7, "")})
}

func TestParseTags(t *testing.T) {
	for _, c := range []struct {
		head string
		tag  int
	}{
		{"5e", 30}, {"5f 1f", 31}, {"5f 7f", 127}, {"5f 81 00", 128}, {"5f ff 7f", 16383}, {"5f 81 80 00", 16384},
		{"5f ff ff 7f", 2097151}, {"5f 81 80 80 00", 2097152}, {"5f ff ff ff 7f", api.MaxTag}, {"5f ff ff ff 7e", api.MaxTag - 1},
	} {
		wantParse(t, hx(c.head+"01 2a"), []api.Elem{{Class: 1, Tag: c.tag, Data: []byte{42}}})
	}
	wantParse(t, hx("1f 1f 00"), []api.Elem{{Tag: 31}})
	wantParse(t, hx("3f 1f 80 00 00"), []api.Elem{{Tag: 31, Cons: true}})
}

func TestParseTagFaults(t *testing.T) {
	for _, c := range []struct {
		b  string
		at int
	}{
		{"1f 80 01 00", 1}, {"1f 80", 1}, {"5f 80 80 1f 00", 1},
		{"5f 00 00", 1}, {"5f 1e 00", 1}, {"5f 1e", 1}, {"1f 00", 1}, {"5f 01", 1},
		{"5f 81 80 80 80 00 00", 5}, {"5f ff ff ff ff 7f 00", 5}, {"5f 81 80 80 80 80 80", 5}, {"5f 81 80 80 80 00", 5},
		{"00", 0}, {"00 00", 0}, {"20", 0}, {"20 00", 0}, {"00 01 05", 0}, {"20 80 00 00", 0},
		{"30 03 1f 80 01", 3}, {"30 02 00 00", 2}, {"30 04 05 00 00 00", 4},
	} {
		wantNoParse(t, hx(c.b), api.ErrTag, c.at)
	}
}

func TestParseLengths(t *testing.T) {
	long := fill(300, 7)
	for _, c := range []struct {
		length string
		n      int
	}{
		{"00", 0}, {"01", 1}, {"7f", 127}, {"81 00", 0}, {"81 01", 1}, {"81 7f", 127}, {"81 80", 128}, {"81 ff", 255},
		{"82 00 00", 0}, {"82 00 05", 5}, {"82 01 00", 256}, {"82 01 2c", 300}, {"84 00 00 01 2c", 300}, {"89 00 00 00 00 00 00 00 01 00", 256},
	} {
		wantParse(t, cat(hx("04"), hx(c.length), long[:c.n]), []api.Elem{{Tag: 4, Data: long[:c.n]}})
	}
	noughts := cat(hx("04 fe"), make([]byte, 125), hx("02 61 62"))
	wantParse(t, noughts, []api.Elem{of(0, 4, "6162")})
	wantParse(t, cat(hx("30 fe"), make([]byte, 126)), []api.Elem{in(0, 16)})
}

func TestParseLengthFaults(t *testing.T) {
	for _, c := range []struct {
		b  string
		at int
	}{
		{"04 01", 1}, {"04 02 61", 1}, {"30 01", 1}, {"04 7f", 1},
		{"04 80", 1}, {"04 80 00 00", 1}, {"80 80 00 00", 1}, {"5f 1f 80 00 00", 2},
		{"04 ff", 1}, {"30 ff", 1}, {"30 ff 00 00", 1}, {"5f 1f ff", 2},
		{"04 81 01", 1}, {"04 82 00 02 61", 1}, {"04 84 ff ff ff ff 61", 1}, {"04 88 80 00 00 00 00 00 00 00", 1},
		{"04 88 ff ff ff ff ff ff ff ff", 1}, {"04 89 01 00 00 00 00 00 00 00 00", 1}, {"04 89 01 00 00 00 00 00 00 00 01 61", 1},
		{"04 90 01 00 00 00 00 00 00 00 00 00 00 00 00 00 00 01 61", 1},
		{"30 03 04 02 61 62", 3}, {"30 04 30 03 05 00 05 00", 3}, {"30 80 04 05 61 00 00", 3}, {"30 02 24 01 04 00", 3},
	} {
		wantNoParse(t, hx(c.b), api.ErrSize, c.at)
	}
	wantNoParse(t, cat(hx("04 fe 01"), make([]byte, 125)), api.ErrSize, 1)
	wantNoParse(t, cat(hx("04 fe 01"), make([]byte, 124), hx("01 61")), api.ErrSize, 1)
}

func TestParseShort(t *testing.T) {
	wantNoParse(t, nil, api.ErrShort, 0)
	wantNoParse(t, []byte{}, api.ErrShort, 0)
	for _, c := range []struct {
		b  string
		at int
	}{
		{"04", 1}, {"30", 1}, {"1f", 1}, {"5f 81", 2}, {"5f ff ff ff", 4}, {"5f ff ff ff ff", 5}, {"5f 1f", 2},
		{"04 81", 2}, {"04 82 00", 3}, {"04 82 ff", 3}, {"04 84 ff ff ff", 5}, {"04 fe 00", 3},
		{"24 80", 2}, {"30 80 05 00", 4}, {"30 80 30 80 00 00", 6}, {"30 80 05", 3},
		{"30 01 05", 3}, {"30 01 05 00", 3}, {"30 01 1f 1f 00", 3}, {"30 02 04 81 00", 4},
		{"30 02 30 80", 4}, {"30 02 30 80 00 00", 4}, {"30 04 30 80 05 00 00 00", 6},
	} {
		wantNoParse(t, hx(c.b), api.ErrShort, c.at)
	}
}

// Two bytes 00 00 end the open element right about them, and no other one.
func TestParseOpen(t *testing.T) {
	null := of(1, 5, "")
	null2 := of(2, 5, "")
	wantParse(t, hx("30 80 05 00 00 00"), []api.Elem{in(0, 16), null})
	wantParse(t, hx("30 80 30 80 05 00 00 00 05 00 00 00"), []api.Elem{in(0, 16), in(1, 16), null2, null})
	wantParse(t, hx("30 80 30 02 05 00 05 00 00 00"), []api.Elem{in(0, 16), in(1, 16), null2, null})
	wantParse(t, hx("30 08 30 80 05 00 00 00 05 00"), []api.Elem{in(0, 16), in(1, 16), null2, null})
	wantParse(t, hx("30 80 30 04 30 80 00 00 00 00"), []api.Elem{in(0, 16), in(1, 16), in(2, 16)})
	wantParse(t, hx("30 04 30 80 00 00"), []api.Elem{in(0, 16), in(1, 16)})
	wantParse(t, hx("30 80 30 80 30 00 00 00 00 00"), []api.Elem{in(0, 16), in(1, 16), in(2, 16)})
	wantParse(t, hx("a0 80 04 02 00 00 00 00"), []api.Elem{{Class: 2, Cons: true}, of(1, 4, "0000")})
	wantParse(t, hx("bf 81 00 80 00 00"), []api.Elem{{Class: 2, Cons: true, Tag: 128}})

	wantNoParse(t, hx("30 80 00 00 00 00"), api.ErrTail, 4)
	wantNoParse(t, hx("30 80 00 00 00"), api.ErrTail, 4)
	wantNoParse(t, hx("30 00 00 00"), api.ErrTail, 2)
	wantNoParse(t, hx("30 80 00"), api.ErrTag, 2)
	wantNoParse(t, hx("30 80 00 01 05 00 00"), api.ErrTag, 2)
	wantNoParse(t, hx("30 03 30 80 00"), api.ErrTag, 4)
	wantNoParse(t, hx("30 03 30 80 00 00"), api.ErrTag, 4)
	wantNoParse(t, hx("30 80 30 02 00 00 00 00"), api.ErrTag, 4)
	wantNoParse(t, hx("30 06 30 80 00 00 00 00"), api.ErrTag, 6)
	wantNoParse(t, hx("30 80 30 03 30 80 00 00 00 00 00"), api.ErrTag, 6)
}

func TestParseTail(t *testing.T) {
	for _, c := range []struct {
		b  string
		at int
	}{
		{"05 00 05", 2}, {"05 00 00", 2}, {"05 00 05 00", 2}, {"30 00 ff", 2}, {"30 02 05 00 05 00", 4}, {"04 01 61 61", 3},
		{"30 80 05 00 00 00 30", 6}, {"04 81 00 00", 3},
	} {
		wantNoParse(t, hx(c.b), api.ErrTail, c.at)
	}
}

// The first fault from the left counts, whatever comes behind it.
func TestParseFirstFault(t *testing.T) {
	for _, c := range []struct {
		b  string
		e  api.Errno
		at int
	}{
		{"30 06 1f 80 04 ff 00 00", api.ErrTag, 3},
		{"30 06 04 ff 1f 80 00 00", api.ErrSize, 3},
		{"30 06 04 05 1f 80 00 00", api.ErrSize, 3},
		{"30 03 05 00 05 05", api.ErrShort, 5},
		{"30 02 05 00 00 00", api.ErrTail, 4},
		{"30 02 00 00 05", api.ErrTag, 2},
		{"30 0f 00", api.ErrSize, 1},
		{"1f 80 ff", api.ErrTag, 1},
		{"5f 1e ff", api.ErrTag, 1},
		{"00 ff", api.ErrTag, 0},
		{"04 ff ff", api.ErrSize, 1},
		{"04 82 ff", api.ErrShort, 3},
	} {
		wantNoParse(t, hx(c.b), c.e, c.at)
	}
}

// nested has n elements one within another, each open, or each closed.
func nested(n int, open bool) []byte {
	if open {
		return cat(slices.Repeat(hx("30 80"), n), make([]byte, 2*n))
	}
	b := []byte(nil)
	for range n {
		if len(b) < 128 {
			b = cat([]byte{0x30, byte(len(b))}, b)
		} else {
			b = cat([]byte{0x30, 0x81, byte(len(b))}, b)
		}
	}
	return b
}

func TestParseDepth(t *testing.T) {
	var l []api.Elem
	for d := range api.MaxDepth {
		l = append(l, in(d, 16))
	}
	for _, open := range []bool{false, true} {
		wantParse(t, nested(api.MaxDepth, open), l)
	}
	// One more of each: told at its place, were it cut off or wrong besides.
	wantNoParse(t, nested(api.MaxDepth+1, true), api.ErrDeep, 2*api.MaxDepth)
	closed := nested(api.MaxDepth+1, false)
	wantNoParse(t, closed, api.ErrDeep, len(closed)-2)
	opened := slices.Repeat(hx("30 80"), api.MaxDepth)
	for _, more := range []string{"", "00", "00 01", "1f 80", "04 ff", "05 00", "04"} {
		wantNoParse(t, cat(opened, hx(more)), api.ErrDeep, 2*api.MaxDepth)
	}
	wantNoParse(t, cat(opened, hx("00 00 00 00")), api.ErrShort, 2*api.MaxDepth+4)
	wantNoParse(t, opened[2:], api.ErrShort, 2*api.MaxDepth-2)
	// What is within a closed one that has nothing is no element.
	wantParse(t, cat(opened[2:], hx("30 00"), make([]byte, 2*api.MaxDepth-2)), l)
}

// wide has n elements, all but the first one within that.
func wide(n int, open bool) []byte {
	inner := slices.Repeat(hx("05 00"), n-1)
	if open {
		return cat(hx("30 80"), inner, hx("00 00"))
	}
	return cat(hx("30 83"), []byte{byte(len(inner) >> 16), byte(len(inner) >> 8), byte(len(inner))}, inner)
}

func TestParseMany(t *testing.T) {
	l := append([]api.Elem{in(0, 16)}, slices.Repeat([]api.Elem{of(1, 5, "")}, api.MaxElems-1)...)
	wantParse(t, wide(api.MaxElems, false), l)
	wantParse(t, wide(api.MaxElems, true), l)
	wantNoParse(t, wide(api.MaxElems+1, false), api.ErrMany, 5+2*(api.MaxElems-1))
	wantNoParse(t, wide(api.MaxElems+1, true), api.ErrMany, 2*api.MaxElems)
	// Told at the place of the one more, were it cut off or wrong besides.
	most := wide(api.MaxElems, true)
	most = most[:len(most)-2]
	for _, more := range []string{"", "00", "00 01", "1f 80", "04 ff", "04"} {
		wantNoParse(t, cat(most, hx(more)), api.ErrMany, 2*api.MaxElems)
	}
	wantNoParse(t, cat(most, hx("00 00 05")), api.ErrTail, 2*api.MaxElems+2)
}

// The one more is too deep besides.
func TestParseManyAheadOfDeep(t *testing.T) {
	nulls := api.MaxElems - api.MaxDepth
	b := cat(hx("30 80"), slices.Repeat(hx("05 00"), nulls), slices.Repeat(hx("30 80"), api.MaxDepth-1))
	for _, more := range []string{"", "05 00", "00", "1f 80"} {
		wantNoParse(t, cat(b, hx(more)), api.ErrMany, 2*api.MaxElems)
		wantNoParse(t, cat(b[:2], b[4:], hx(more)), api.ErrDeep, 2*api.MaxElems-2)
	}
}

func TestParseMostBytes(t *testing.T) {
	data := fill(api.MaxTotal-5, 'x')
	most := cat(hx("04 83 ff ff fb"), data)
	wantParse(t, most, []api.Elem{{Tag: 4, Data: data}})
	wantNoParse(t, append(most, 0), api.ErrLong, 0)
	wantNoParse(t, make([]byte, api.MaxTotal+1), api.ErrLong, 0)
	wantNoParse(t, fill(api.MaxTotal+1, 0x30), api.ErrLong, 0)
	wantNoParse(t, make([]byte, api.MaxTotal), api.ErrTag, 0)
	wantNoParse(t, cat(hx("04 83 ff ff fc"), data), api.ErrSize, 1)
	wantNoParse(t, cat(hx("04 83 ff ff fa"), data), api.ErrTail, api.MaxTotal-1)
	wantNoParse(t, cat(hx("04 84 01 00 00 00"), data[1:]), api.ErrSize, 1)
}

func holdParse(t *testing.T, b []byte) {
	t.Helper()
	l, e, at := ber.Parse(b)
	m, asked, place := modelParse(b)
	if e != asked || at != place || !same(l, m) {
		t.Errorf("Parse(%x): error %d at %d, %v; wanted error %d at %d, %v", b, e, at, l, asked, place, m)
	}
}

// All rows of up to five bytes of those that count.
func TestParseAllShortRows(t *testing.T) {
	some := hx("00 01 02 05 1f 20 24 30 80 81 82 9f bf ff")
	rows := [][]byte{nil}
	for range 5 {
		var longer [][]byte
		for _, row := range rows {
			holdParse(t, row)
			for _, c := range some {
				longer = append(longer, append(row[:len(row):len(row)], c))
			}
		}
		rows = longer
	}
	for _, row := range rows {
		holdParse(t, row)
	}
}

// Trees that are laid by chance, and what becomes of them by a byte that is
// changed, one more, or one that is gone.
func TestParseTreesByChance(t *testing.T) {
	r := rand.New(rand.NewSource(3))
	for range 4000 {
		b := anyTree(r, 0).lay(r)
		holdParse(t, b)
		for range 6 {
			c := slices.Clone(b)
			i := r.Intn(len(c))
			switch r.Intn(3) {
			case 0:
				c[i] = pick(r, byte(r.Intn(256)), 0, 0x80, 0x30, 0xff, c[i]+1, c[i]-1)
			case 1:
				c = slices.Insert(c, i, pick(r, byte(r.Intn(256)), 0, 0x80, 0x30))
			default:
				c = slices.Delete(c, i, i+1)
			}
			holdParse(t, c)
		}
	}
}
