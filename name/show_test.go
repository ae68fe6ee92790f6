package name_test

import (
	"fmt"
	"math/rand"
	"strings"
	"testing"

	"chirograph/api"
	"chirograph/name"
)

// P7.5: the examples of the chapter, and of the document.
func TestShowExamples(t *testing.T) {
	wantShow(t, one(atv("2.5.4.6", api.TagPrintable, "DE")), "C=DE")
	wantShow(t, row{{atv("2.5.4.10", api.TagUtf8, "a,b ")}, {atv("2.5.4.3", 4, "\x01")}}, `CN=#01,O=a\,b\ `)
}

// P7.5: the letters, and Types that have none.
func TestShowTypes(t *testing.T) {
	for kind, want := range map[string]string{
		"2.5.4.3": "CN", "2.5.4.6": "C", "2.5.4.7": "L", "2.5.4.8": "ST", "2.5.4.10": "O", "2.5.4.11": "OU", "1.2.840.113549.1.9.1": "E",
	} {
		wantShow(t, one(atv(kind, 12, "x")), want+"=x")
		wantShow(t, one(atv(kind+"0", 12, "x")), kind+"0=x")
		wantShow(t, one(atv(kind+".1", 12, "x")), kind+".1=x")
	}
	for _, kind := range []string{"2.5.4.1", "2.5.4.2", "2.5.4.4", "2.5.4.5", "2.5.4.9", "2.5.4.12", "2.5.4", "1.2.840.113549.1.9", "0.9.2342.19200300.100.1.25", "CN", "cn", "", "a=b,c", " "} {
		wantShow(t, one(atv(kind, 12, "x")), kind+"=x")
	}
}

// P7.5: sets from the last to the first, parts in their order.
func TestShowOrder(t *testing.T) {
	wantShow(t, nil, "")
	wantShow(t, row{}, "")
	wantShow(t, row{{cn("a")}, {cn("b")}, {cn("c")}}, "CN=c,CN=b,CN=a")
	wantShow(t, row{{cn("b"), cn("a"), cn("c")}}, "CN=b+CN=a+CN=c")
	wantShow(t, row{{cn("b"), cn("a")}, {cn("d"), cn("c")}}, "CN=d+CN=c,CN=b+CN=a")
	wantShow(t, row{{}}, "")
	wantShow(t, row{{}, {cn("a")}, nil}, ",CN=a,")
	wantShow(t, make(row, 100), strings.Repeat(",", 99))
	wantShow(t, row{often(100, cn("a"))}, strings.Repeat("CN=a+", 99)+"CN=a")
}

// P7.5: each byte as the first, as the last, within, and alone.
func TestShowEveryByte(t *testing.T) {
	for c := range 128 {
		s := string(rune(c))
		plain, first, last := s, s, s
		switch {
		case strings.Contains(`"+,;<>=\`, s):
			plain, first, last = `\`+s, `\`+s, `\`+s
		case c < 0x20 || c == 0x7f:
			plain = fmt.Sprintf(`\%02x`, c)
			first, last = plain, plain
		case s == " ":
			first, last = `\ `, `\ `
		case s == "#":
			first = `\#`
		}
		for _, tag := range []int{api.TagUtf8, api.TagIa5} {
			wantShow(t, one(atv("2.5.4.3", tag, s)), "CN="+first)
			wantShow(t, one(atv("2.5.4.3", tag, s+"xy")), "CN="+first+"xy")
			wantShow(t, one(atv("2.5.4.3", tag, "xy"+s)), "CN=xy"+last)
			wantShow(t, one(atv("2.5.4.3", tag, "x"+s+"y")), "CN=x"+plain+"y")
			wantShow(t, one(atv("2.5.4.3", tag, "x"+s+s+"y")), "CN=x"+plain+plain+"y")
			wantShow(t, one(atv("2.5.4.3", tag, s+s)), "CN="+first+last)
			wantShow(t, one(atv("2.5.4.3", tag, s+s+s)), "CN="+first+plain+last)
		}
	}
}

// P7.5: the text, not the bytes of the kind, and not what of it counts.
func TestShowTexts(t *testing.T) {
	wantShow(t, one(cn("")), "CN=")
	wantShow(t, one(cn(" ")), `CN=\ `)
	wantShow(t, one(cn("  ")), `CN=\ \ `)
	wantShow(t, one(cn("   ")), `CN=\  \ `)
	wantShow(t, one(cn("  A  b ")), `CN=\  A  b\ `)
	wantShow(t, one(cn("é€\U0001f600\u0085\u00a0")), "CN=é€\U0001f600\u0085\u00a0")
	wantShow(t, one(atv("2.5.4.3", api.TagBmp, "\x00A\x20\xac\x00,\x00 ")), `CN=A€\,\ `)
	wantShow(t, one(atv("2.5.4.3", api.TagBmp, "\x2c\x2b\x20\x20")), "CN=\u2c2b\u2020")
	wantShow(t, one(atv("2.5.4.3", api.TagNumeric, "1 2")), "CN=1 2")
	wantShow(t, one(atv("2.5.4.3", api.TagVisible, "<#>")), `CN=\<#\>`)
	wantShow(t, row{{cn("a+b"), cn("#c")}, {cn("d,e")}}, `CN=d\,e,CN=a\+b+CN=\#c`)
}

// P7.5: where there is no text, the Data in digits.
func TestShowNoTexts(t *testing.T) {
	wantShow(t, one(atv("2.5.4.3", 4, "")), "CN=#")
	wantShow(t, one(atv("2.5.4.3", 4, "a,b ")), "CN=#612c6220")
	wantShow(t, one(atv("1.2", 0, "\x00\x0f\xf0\xab\xcd\xef")), "1.2=#000ff0abcdef")
	wantShow(t, one(cn("\xff")), "CN=#ff")
	wantShow(t, one(cn("a\x80")), "CN=#6180")
	wantShow(t, one(atv("2.5.4.3", api.TagPrintable, "a@b")), "CN=#614062")
	wantShow(t, one(atv("2.5.4.3", api.TagBmp, "A")), "CN=#41")
	wantShow(t, one(atv("2.5.4.3", -12, "A")), "CN=#41")
	for c := range 256 {
		wantShow(t, one(atv("2.5.4.3", 4, string([]byte{byte(c)}))), fmt.Sprintf("CN=#%02x", c))
	}
}

// P7.5: drawn names against the second writing.
func TestShowAgainstModel(t *testing.T) {
	r := rand.New(rand.NewSource(75))
	for range 60000 {
		n := drawn(r)
		if got, want := name.Show(n), modelShow(n); got != want {
			t.Fatalf("Show(%v): %q; wanted %q", n, got, want)
		}
	}
}
