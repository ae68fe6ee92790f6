package realm_test

import (
	"strings"
	"testing"
)

// P14.1: the examples of the chapter, and the ways to be below a base.
func TestHost(t *testing.T) {
	wantHost(t, "a.B.example", "b.example", true)
	wantHost(t, "ab.example", "b.example", false)
	wantHost(t, "b.example", ".b.example", false)
	wantHost(t, "b.example", "b.example", true)
	wantHost(t, "a.b.example", ".b.example", true)
	wantHost(t, "c.a.b.example", "b.example", true)
	wantHost(t, "c.a.b.example", ".b.example", true)
	wantHost(t, "b.example", "a.b.example", false)
	wantHost(t, "b.example.", "b.example", false)
	wantHost(t, "b.example.a", "b.example", false)
	wantHost(t, "b-example", "b.example", false)
	wantHost(t, "*.b.example", "b.example", true)
}

func TestHostEmpty(t *testing.T) {
	for _, host := range []string{"", ".", "a", "a.b", "..", " ", "\xff", "@"} {
		wantHost(t, host, "", true)
		wantHost(t, "", host, host == "")
	}
}

func TestHostPoints(t *testing.T) {
	wantHost(t, ".b", "b", true) // ends in a point and the base
	wantHost(t, ".b", ".b", true)
	wantHost(t, "..b", ".b", true)
	wantHost(t, "..b", "b", true)
	wantHost(t, "a..b", ".b", true)
	wantHost(t, "ab", ".b", false)
	wantHost(t, "b", "b.", false)
	wantHost(t, "a.b.", "b.", true)
	wantHost(t, "ab.", "b.", false)
	wantHost(t, ".", ".", true)
	wantHost(t, "a.", ".", true)
	wantHost(t, "..", ".", true)
	wantHost(t, "a", ".", false)
	wantHost(t, ".a", ".", false)
	wantHost(t, "a.b.c", ".b.c", true)
	wantHost(t, "ab.c", ".b.c", false)
	wantHost(t, "b.c", ".b.c", false)
	wantHost(t, "b.c", "..b.c", false)
}

// P14.1: each byte is as itself alone, but for the letters A to Z.
func TestHostLetters(t *testing.T) {
	for a := range 256 {
		for b := range 256 {
			x, y := string([]byte{byte(a)}), string([]byte{byte(b)})
			alike := a == b || a^b == 0x20 && ('A' <= a && a <= 'Z' || 'A' <= b && b <= 'Z')
			wantHost(t, x, y, alike)
			wantHost(t, "q."+x+"q", y+"Q", alike)
			wantHost(t, "q."+x, "."+y, alike)
		}
	}
}

// P14.1: characters that are letters elsewhere count as they are, and so do
// blanks and what is no UTF-8.
func TestHostOtherCharacters(t *testing.T) {
	for _, l := range [][]string{{"k", "\u212a"}, {"s", "\u017f"}, {"\u00e4", "\u00c4"}, {"i", "\u0130", "\u0131"}, {"\xff", "\xfe", "\ufffd"}, {"\xc3\xa4", "\xc3"}, {"a b", "a  b", "ab", " a b", "a b "}, {"ss", "\u00df"}} {
		for i, a := range l {
			for j, b := range l {
				wantHost(t, a, b, i == j)
				wantHost(t, "x."+a, b, i == j)
				wantHost(t, "x."+a, "."+b, i == j)
			}
		}
	}
}

func TestHostLong(t *testing.T) {
	s := strings.Repeat("a.", 100000)
	wantHost(t, s+"b", "A.b", true)
	wantHost(t, s+"b", s+"B", true)
	wantHost(t, s+"b", "a"+s+"b", false)
	wantHost(t, s+"b", "."+s+"b", false)
}

// P14.1: all short hosts against the second writing.
func TestHostAgainstModel(t *testing.T) {
	l := texts(4, ".", "a", "A", "b", "\xff")
	for _, host := range l {
		for _, base := range l {
			wantHost(t, host, base, modelHost(host, base))
		}
		if t.Failed() {
			return
		}
	}
}
