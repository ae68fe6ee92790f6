package text_test

import (
	"math/rand"
	"strings"
	"testing"

	"chirograph/api"
	"chirograph/text"
)

const none = -1 // no tag of a kind

func kinds() []int {
	return []int{api.TagUtf8, api.TagNumeric, api.TagPrintable, api.TagIa5, api.TagVisible, api.TagBmp}
}

func pick[T any](r *rand.Rand, l ...T) T {
	return l[r.Intn(len(l))]
}

// between is a number by chance, both ends among them.
func between(r *rand.Rand, low, high int) int {
	return low + r.Intn(high-low+1)
}

// short shows the beginning of what may be long.
func short(s string) string {
	return s[:min(len(s), 60)]
}

func wantText(t *testing.T, tag int, data, s string) {
	t.Helper()
	if got, e := text.Text(tag, []byte(data)); got != s || e != api.OK {
		t.Errorf("Text(%d, %q): %q, error %d; wanted %q", tag, short(data), short(got), e, short(s))
	}
}

func wantNoText(t *testing.T, tag int, data string, e api.Errno) {
	t.Helper()
	if got, err := text.Text(tag, []byte(data)); got != "" || err != e {
		t.Errorf("Text(%d, %q): %q, error %d; wanted error %d", tag, short(data), short(got), err, e)
	}
}

func wantFold(t *testing.T, s, folded string) {
	t.Helper()
	if got := text.Fold(s); got != folded {
		t.Errorf("Fold(%q): %q; wanted %q", short(s), short(got), short(folded))
	}
}

func wantKey(t *testing.T, tag int, data, key string) {
	t.Helper()
	if got := text.Key(tag, []byte(data)); got != key {
		t.Errorf("Key(%d, %q): %q; wanted %q", tag, short(data), short(got), short(key))
	}
}

// wantAlike asks both ways round.
func wantAlike(t *testing.T, tag int, a string, other int, b string, alike bool) {
	t.Helper()
	if text.Alike(tag, []byte(a), other, []byte(b)) != alike || text.Alike(other, []byte(b), tag, []byte(a)) != alike {
		t.Errorf("Alike(%d, %q, %d, %q): wanted %v", tag, short(a), other, short(b), alike)
	}
}

// pairs lays a text of characters up to ffff as Bmp has it.
func pairs(s string) string {
	var b strings.Builder
	for _, c := range s {
		b.WriteByte(byte(c >> 8))
		b.WriteByte(byte(c))
	}
	return b.String()
}

// laid is the text as a kind has it; it need be none of that kind.
func laid(tag int, s string) string {
	if tag == api.TagBmp {
		return pairs(s)
	}
	return s
}

// characters has those that a text of the kind may be drawn from, blanks and
// letters often.
func characters(tag int) []rune {
	few := "aAbBzZ    '()+,-./:=?019"
	switch tag {
	case api.TagNumeric:
		few = "0123456789          "
	case api.TagIa5:
		few += "@[`{\x00\t\n\x7f_*"
	case api.TagVisible:
		few += "@[`{~!_*"
	case api.TagUtf8:
		few += "@[`{\x00\t\n\x7féÉßſK\u0130\u00a0\u2003\u0301\ufffd\uffff\U0001f600\U0010ffff"
	case api.TagBmp:
		few += "@[`{\x00\t\n\x7féÉßſK\u0130\u00a0\u2003\u0301\ufffd\uffff\u2041\u4120"
	}
	return []rune(few)
}

// drawnText is a text that the kind can say.
func drawnText(r *rand.Rand, tag int) string {
	l := make([]rune, r.Intn(12))
	for i := range l {
		l[i] = pick(r, characters(tag)...)
	}
	return string(l)
}

// drawnBytes need be no text of any kind.
func drawnBytes(r *rand.Rand) string {
	var b strings.Builder
	for range r.Intn(10) {
		b.WriteString(pick(r, " ", "  ", "A", "a", "Z", "0", "é", "€", "@", "\x00", "\x00 ", "\x00A", "\xd8\x00", "\xff", "\xc3", "\xe2\x82", "\xf0\x9f\x98\x80", "\xed\xa0\x80", "\xc0\xa0", "\ufffd"))
	}
	return b.String()
}

func drawnTag(r *rand.Rand) int {
	return pick(r, pick(r, kinds()...), pick(r, kinds()...), between(r, -2, 40))
}
