package text_test

import (
	"math"
	"math/rand"
	"testing"

	"chirograph/api"
	"chirograph/text"
)

// P6.3: the examples of the chapter.
func TestKeyExamples(t *testing.T) {
	wantKey(t, api.TagIa5, "A ", "=a")
	wantKey(t, 4, "\x01", "#4:\x01")
	wantAlike(t, api.TagPrintable, "ACME", api.TagUtf8, "acme", true)
}

// P6.3: where there is a text.
func TestKeyOfText(t *testing.T) {
	for _, tag := range kinds() {
		wantKey(t, tag, "", "=")
		wantKey(t, tag, laid(tag, " "), "=")
		wantKey(t, tag, laid(tag, "  1   2 "), "=1 2")
		if tag != api.TagNumeric {
			wantKey(t, tag, laid(tag, "  ACME   Corp. "), "=acme corp.")
			wantKey(t, tag, laid(tag, "=A"), "==a")
		}
	}
	wantKey(t, api.TagBmp, "\x00A\x20\xac", "=a€")
	wantKey(t, api.TagBmp, "AB", "=䅂")
	wantKey(t, api.TagUtf8, " É É ", "=É É")
	wantKey(t, api.TagIa5, "#4:\x01", "=#4:\x01")
	wantKey(t, api.TagVisible, "#", "=#")
}

// P6.3: where there is none: the tag, and the data as they are.
func TestKeyOfNoText(t *testing.T) {
	wantKey(t, api.TagPrintable, " A@  B ", "#19: A@  B ")
	wantKey(t, api.TagNumeric, "A", "#18:A")
	wantKey(t, api.TagUtf8, "A \xff", "#12:A \xff")
	wantKey(t, api.TagIa5, "É", "#22:É")
	wantKey(t, api.TagVisible, "A\x7f", "#26:A\x7f")
	wantKey(t, api.TagBmp, "\x00A\x00", "#30:\x00A\x00")
	wantKey(t, api.TagBmp, "\xd8\x00", "#30:\xd8\x00")
	wantKey(t, 0, "", "#0:")
	wantKey(t, 4, "", "#4:")
	wantKey(t, 4, "  A  b ", "#4:  A  b ")
	wantKey(t, 20, "ACME", "#20:ACME")
	wantKey(t, 268435455, "é", "#268435455:é")
	wantKey(t, -1, "x", "#-1:x")
	wantKey(t, math.MaxInt, "x", "#9223372036854775807:x")
	wantKey(t, math.MinInt, "x", "#-9223372036854775808:x")
}

// P6.3: what is alike, and what is not.
func TestAlike(t *testing.T) {
	wantAlike(t, api.TagUtf8, "", api.TagBmp, "", true)
	wantAlike(t, api.TagUtf8, "", api.TagIa5, "  ", true)
	wantAlike(t, api.TagUtf8, " A  B", api.TagBmp, "\x00a\x00 \x00b", true)
	wantAlike(t, api.TagUtf8, "€", api.TagBmp, "\x20\xac", true)
	wantAlike(t, api.TagUtf8, "ab", api.TagUtf8, "a b", false)
	wantAlike(t, api.TagUtf8, "é", api.TagUtf8, "É", false)
	wantAlike(t, api.TagUtf8, "é", api.TagUtf8, "e\u0301", false)
	wantAlike(t, api.TagUtf8, "a", api.TagUtf8, "b", false)
	wantAlike(t, api.TagUtf8, "a", api.TagUtf8, "", false)
	wantAlike(t, api.TagUtf8, "a\t", api.TagUtf8, "a", false)
	wantAlike(t, api.TagIa5, "a\x00", api.TagIa5, "a", false)
	// Without a text neither letters nor blanks are folded, and the tags count.
	wantAlike(t, 4, "A", 4, "A", true)
	wantAlike(t, 4, "A", 4, "a", false)
	wantAlike(t, 4, "A ", 4, "A", false)
	wantAlike(t, 4, "A", 5, "A", false)
	wantAlike(t, 4, "", 5, "", false)
	wantAlike(t, 4, "", api.TagUtf8, "", false)
	wantAlike(t, 1, "1:x", 11, ":x", false)
	wantAlike(t, -4, "A", 4, "A", false)
	wantAlike(t, api.TagPrintable, "a@b", api.TagPrintable, "a@b", true)
	wantAlike(t, api.TagPrintable, "a@b", api.TagIa5, "a@b", false)
	wantAlike(t, api.TagIa5, "\xff", api.TagUtf8, "\xff", false)
	wantAlike(t, api.TagIa5, "#4:x", 4, "x", false)
	wantAlike(t, api.TagIa5, "=", api.TagIa5, "", false)
	// Bytes that are the same say another thing in another kind.
	wantAlike(t, api.TagUtf8, "\x00A", api.TagBmp, "\x00A", false)
	wantAlike(t, api.TagUtf8, "AB", api.TagBmp, "AB", false)
}

// P6.3: drawn strings, against the second writing.
func TestKeyAgainstModel(t *testing.T) {
	r := rand.New(rand.NewSource(63))
	for range 200000 {
		tag, other, a, b := drawnTag(r), drawnTag(r), drawnBytes(r), drawnBytes(r)
		if r.Intn(2) == 0 {
			b = a
		}
		if r.Intn(2) == 0 {
			other = tag
		}
		key := modelKey(tag, a)
		if got := text.Key(tag, []byte(a)); got != key {
			t.Fatalf("Key(%d, %q): %q; wanted %q", tag, a, got, key)
		}
		if got := text.Alike(tag, []byte(a), other, []byte(b)); got != (key == modelKey(other, b)) {
			t.Fatalf("Alike(%d, %q, %d, %q): %v", tag, a, other, b, got)
		}
	}
}
