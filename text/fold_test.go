package text_test

import (
	"math/rand"
	"strings"
	"testing"

	"chirograph/text"
)

// P6.2: the examples of the chapter, and the edges of its words.
func TestFold(t *testing.T) {
	for _, x := range [][2]string{
		{"  A  b ", "a b"},
		{"", ""}, {" ", ""}, {"  ", ""}, {"          ", ""},
		{"a", "a"}, {"A", "a"}, {" a", "a"}, {"a ", "a"}, {"   a   ", "a"},
		{"a b", "a b"}, {"a  b", "a b"}, {"a   b    c", "a b c"}, {"  a  b  ", "a b"}, {"a b c", "a b c"},
		{"ABCDEFGHIJKLMNOPQRSTUVWXYZ", "abcdefghijklmnopqrstuvwxyz"},
		{"abcdefghijklmnopqrstuvwxyz", "abcdefghijklmnopqrstuvwxyz"},
		{"@[`{", "@[`{"}, {"0'()+,-./:=?9", "0'()+,-./:=?9"},
		{"  é  É ", "é É"},
	} {
		wantFold(t, x[0], x[1])
	}
}

// P6.2: of all characters A to Z alone become small ones, and the byte 20
// alone is a blank.
func TestFoldEveryCharacter(t *testing.T) {
	for c := range rune(0x110000) {
		s, want := string(c), string(c)
		if c == ' ' {
			continue
		}
		if c >= 'A' && c <= 'Z' {
			want = string(c + 32)
		}
		wantFold(t, s, want)
		wantFold(t, s+s, want+want)
		wantFold(t, " "+s+"  "+s+" ", want+" "+want)
		if t.Failed() {
			return
		}
	}
}

// P6.2: other white space is no blank, at the ends and within.
func TestOtherSpaceStays(t *testing.T) {
	for _, s := range []string{"\t", "\n", "\r", "\v", "\f", "\x00", "\u0085", "\u00a0", "\u1680", "\u2003", "\u200b", "\u3000", "\ufeff"} {
		wantFold(t, s, s)
		wantFold(t, s+s, s+s)
		wantFold(t, s+"A"+s, s+"a"+s)
		wantFold(t, "  "+s+"  A  "+s+"  ", s+" a "+s)
	}
}

// P6.2: what is no UTF-8 stays as it is; a blank or a letter beside it is one
// all the same.
func TestFoldOfNoText(t *testing.T) {
	for c := 0x80; c < 256; c++ {
		s := string([]byte{byte(c)})
		wantFold(t, s, s)
		wantFold(t, s+"A", s+"a")
		wantFold(t, "A"+s, "a"+s)
		wantFold(t, " "+s+"  "+s+" ", s+" "+s)
	}
	wantFold(t, "\xe2\x82  A", "\xe2\x82 a")
	wantFold(t, "\xe2\x82\xac\xacA", "\xe2\x82\xac\xaca")
	wantFold(t, "\xed\xa0\x80B", "\xed\xa0\x80b")
	wantFold(t, "\xc1\x81", "\xc1\x81")
	wantFold(t, "\xc0\xa0 \xc0\xa0", "\xc0\xa0 \xc0\xa0")
	wantFold(t, "\ufffd \xff", "\ufffd \xff")
}

func TestFoldOfLong(t *testing.T) {
	wantFold(t, strings.Repeat(" ", 100000), "")
	wantFold(t, strings.Repeat(" ", 100000)+"A"+strings.Repeat(" ", 100000)+"B"+strings.Repeat(" ", 100000), "a b")
	wantFold(t, strings.Repeat("A  ", 50000), strings.Repeat("a ", 49999)+"a")
	wantFold(t, strings.Repeat("É\xff", 50000), strings.Repeat("É\xff", 50000))
}

// P6.2: all strings of two bytes, and drawn ones, against the second writing.
func TestFoldAgainstModel(t *testing.T) {
	ask := func(s string) {
		if got, want := text.Fold(s), modelFold(s); got != want {
			t.Fatalf("Fold(%q): %q; wanted %q", s, got, want)
		}
	}
	for i := range 65536 {
		two := string([]byte{byte(i >> 8), byte(i)})
		ask(two)
		ask(" " + two + " B")
	}
	r := rand.New(rand.NewSource(62))
	for range 200000 {
		ask(drawnBytes(r))
	}
}
