package text_test

import (
	"math"
	"math/rand"
	"slices"
	"strings"
	"testing"

	"chirograph/api"
	"chirograph/text"
)

// P6.1: the examples of the chapter.
func TestTextExamples(t *testing.T) {
	wantText(t, api.TagBmp, "\x00\x41\x20\xac", "A€")
	wantNoText(t, api.TagPrintable, "a@b", api.ErrChar)
}

// P6.1: each kind takes just its own bytes, at the beginning, within and at
// the end.
func TestKindsOfOneByte(t *testing.T) {
	letters := "ABCDEFGHIJKLMNOPQRSTUVWXYZabcdefghijklmnopqrstuvwxyz"
	takes := map[int]func(c int) bool{
		api.TagUtf8:      func(c int) bool { return c <= 0x7f },
		api.TagNumeric:   func(c int) bool { return strings.Contains("0123456789 ", string(rune(c))) },
		api.TagPrintable: func(c int) bool { return strings.Contains(letters+"0123456789 '()+,-./:=?", string(rune(c))) },
		api.TagIa5:       func(c int) bool { return c <= 0x7f },
		api.TagVisible:   func(c int) bool { return c >= 0x20 && c <= 0x7e },
	}
	for tag, has := range takes {
		for c := range 256 {
			for _, around := range [][2]string{{"", ""}, {"1 2", ""}, {"", " 12"}, {" 1", "2 "}} {
				s := around[0] + string([]byte{byte(c)}) + around[1]
				if has(c) {
					wantText(t, tag, s, s)
				} else {
					wantNoText(t, tag, s, api.ErrChar)
				}
			}
		}
	}
}

// P6.1: characters of many bytes are in Utf8 alone.
func TestManyBytesInKindsOfOne(t *testing.T) {
	for _, s := range []string{"é", "€", "\ufffd", "\U0001f600", "a\u00a0", "\u0661"} {
		wantText(t, api.TagUtf8, s, s)
		for _, tag := range []int{api.TagNumeric, api.TagPrintable, api.TagIa5, api.TagVisible} {
			wantNoText(t, tag, s, api.ErrChar)
		}
	}
}

// manyBytes lays c in so many bytes, whether or not that is the shortest way.
func manyBytes(c, size int) string {
	if size == 1 {
		return string([]byte{byte(c)})
	}
	b := make([]byte, size)
	for i := size - 1; i > 0; i-- {
		b[i] = 0x80 | byte(c&0x3f)
		c >>= 6
	}
	b[0] = []byte{0, 0, 0xc0, 0xe0, 0xf0}[size] | byte(c)
	return string(b)
}

// P6.1: Utf8 takes each character in the shortest way, and in no other.
func TestUtf8EveryCharacter(t *testing.T) {
	room := []int{0, 1 << 7, 1 << 11, 1 << 16, 1 << 21}
	for c := range 1 << 21 {
		shortest := true
		for size := 1; size <= 4; size++ {
			if c >= room[size] {
				continue
			}
			s := manyBytes(c, size)
			if shortest && c <= 0x10ffff && (c < 0xd800 || c > 0xdfff) {
				wantText(t, api.TagUtf8, s, s)
			} else {
				wantNoText(t, api.TagUtf8, s, api.ErrChar)
			}
			shortest = false
		}
		if t.Failed() {
			return
		}
	}
}

// P6.1: what is near to UTF-8.
func TestUtf8Wrong(t *testing.T) {
	for _, s := range []string{
		"\x80", "\xbf", "a\x80", "\x80a", // a byte that goes on with nothing
		"\xc3", "\xe2\x82", "\xf0\x9f\x98", "a\xc3", "\xc3a", "\xe2\x82a", "\xf0\x9f\x98a", "\xc3 ", // cut off
		"é\xa9", "€\x80", // too much behind
		"\xc0\x80", "\xc1\xbf", "\xe0\x80\x80", "\xe0\x9f\xbf", "\xf0\x80\x80\x80", "\xf0\x8f\xbf\xbf", // longer than need be
		"\xed\xa0\x80", "\xed\xbf\xbf", "\xed\xa0\xbd\xed\xb8\x80", // d800 to dfff
		"\xf4\x90\x80\x80", "\xf5\x80\x80\x80", "\xf7\xbf\xbf\xbf", // beyond 10ffff
		"\xf8\x88\x80\x80\x80", "\xfc\x84\x80\x80\x80\x80", "\xfe", "\xff", "\xff\xfeA\x00", // no beginnings
	} {
		wantNoText(t, api.TagUtf8, s, api.ErrChar)
		wantNoText(t, api.TagUtf8, "é "+s, api.ErrChar)
		wantNoText(t, api.TagUtf8, s+" é", api.ErrChar)
	}
	for _, s := range []string{"\xef\xbb\xbfa", "\xed\x9f\xbf", "\xee\x80\x80", "\xef\xbf\xbe", "\xef\xbf\xbf", "\xef\xbf\xbd", "\xf4\x8f\xbf\xbf", "e\u0301"} {
		wantText(t, api.TagUtf8, s, s)
	}
}

// P6.1: Bmp takes every pair of bytes but those from d800 to dfff.
func TestBmpEveryCharacter(t *testing.T) {
	for c := range 1 << 16 {
		data := string([]byte{byte(c >> 8), byte(c)})
		if c >= 0xd800 && c <= 0xdfff {
			wantNoText(t, api.TagBmp, data, api.ErrChar)
			wantNoText(t, api.TagBmp, "\x00A"+data+"\x00A", api.ErrChar)
			continue
		}
		wantText(t, api.TagBmp, data, string(rune(c)))
		wantText(t, api.TagBmp, "\x00A"+data+" \xac", "A"+string(rune(c))+"€")
		wantNoText(t, api.TagBmp, data+"\x00", api.ErrChar)
	}
}

// P6.1: two bytes from d800 to dfff are none in a pair either; half a
// character is none.
func TestBmpWrong(t *testing.T) {
	for _, s := range []string{"\x00", "A", "\x00A\x00", "\x00AB", "\xd8\x3d\xde\x00", "\xde\x00\xd8\x3d", "\xd8\x00", "\xdb\xff", "\xdc\x00", "\xdf\xff", "\xd8", "\x00A\xd8"} {
		wantNoText(t, api.TagBmp, s, api.ErrChar)
	}
	wantText(t, api.TagBmp, "\xfe\xff\x00A", "\ufeffA")
	wantText(t, api.TagBmp, "\xd7\xff\xe0\x00\xff\xfd\xff\xff", "\ud7ff\ue000\ufffd\uffff")
}

// P6.1: ErrKind stands ahead of ErrChar: data play no part.
func TestKindAheadOfChar(t *testing.T) {
	tags := []int{math.MinInt, math.MinInt32, math.MaxInt, math.MaxInt32, api.MaxTag}
	for tag := -300; tag <= 300; tag++ {
		tags = append(tags, tag)
	}
	for _, tag := range kinds() { // what wraps round is another tag
		tags = append(tags, -tag, tag+256, tag+65536, tag+1<<32, tag-256)
	}
	for _, tag := range tags {
		for _, s := range []string{"", "1", "a", "\xff", "\xd8\x00"} {
			if !slices.Contains(kinds(), tag) {
				wantNoText(t, tag, s, api.ErrKind)
			}
		}
	}
	for _, tag := range kinds() {
		wantText(t, tag, "", "")
		wantNoText(t, tag, "\xd8\x00\xff", api.ErrChar)
		wantText(t, tag, laid(tag, " 0 9 "), " 0 9 ") // nothing is folded
	}
}

// P6.1: one wrong character, wherever it is, makes a long string none.
func TestLongTexts(t *testing.T) {
	good := strings.Repeat("0 9", 5000)
	for _, tag := range kinds() {
		wantText(t, tag, laid(tag, good), good)
		for _, at := range []int{0, 1, 7500, 14998, 14999} {
			b := []byte(laid(tag, good))
			b[at&^1] = 0xd8
			wantNoText(t, tag, string(b), api.ErrChar)
		}
	}
}

// P6.1: all strings of two bytes, and drawn ones, against the second writing.
func TestTextAgainstModel(t *testing.T) {
	ask := func(tag int, data string) {
		s, e := text.Text(tag, []byte(data))
		if want, err := modelText(tag, data); s != want || e != err {
			t.Fatalf("Text(%d, %q): %q, error %d; wanted %q, error %d", tag, data, s, e, want, err)
		}
	}
	for i := range 65536 {
		for _, tag := range append(kinds(), none) {
			ask(tag, string([]byte{byte(i >> 8), byte(i)}))
		}
	}
	r := rand.New(rand.NewSource(61))
	edges := []byte{0x00, 0x20, 0x41, 0x7f, 0x80, 0x8f, 0x90, 0x9f, 0xa0, 0xbf, 0xc0, 0xc1, 0xc2, 0xd8, 0xdf, 0xe0, 0xed, 0xef, 0xf0, 0xf1, 0xf4, 0xf5, 0xff}
	for range 200000 {
		b := make([]byte, between(r, 3, 6))
		for i := range b {
			b[i] = pick(r, edges...)
		}
		ask(pick(r, api.TagUtf8, api.TagBmp), string(b))
		ask(drawnTag(r), drawnBytes(r))
	}
}
