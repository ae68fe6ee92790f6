package text_test

import (
	"math/rand"
	"strings"
	"testing"

	"chirograph/api"
	"chirograph/text"
)

// P6.4: Fold of what is folded is that.
func TestFoldTwice(t *testing.T) {
	r := rand.New(rand.NewSource(641))
	for range 100000 {
		s := drawnBytes(r)
		if r.Intn(2) == 0 {
			s = drawnText(r, pick(r, kinds()...))
		}
		once := text.Fold(s)
		if twice := text.Fold(once); twice != once {
			t.Fatalf("Fold(%q): %q, and of that: %q", s, once, twice)
		}
	}
}

// changed is s with letters small or great by chance, with more blanks where
// one is, and at the ends.
func changed(r *rand.Rand, s string) string {
	var b strings.Builder
	more := func() { b.WriteString(strings.Repeat(" ", r.Intn(3))) }
	more()
	for _, c := range s {
		switch {
		case c == ' ':
			more()
		case c >= 'A' && c <= 'Z' && r.Intn(2) == 0:
			c += 32
		case c >= 'a' && c <= 'z' && r.Intn(2) == 0:
			c -= 32
		}
		b.WriteRune(c)
	}
	more()
	return b.String()
}

// P6.4: small and great letters, and more blanks where one is or at the ends,
// change no Key of a text.
func TestWhatChangesNoKey(t *testing.T) {
	r := rand.New(rand.NewSource(642))
	for range 100000 {
		tag := pick(r, kinds()...)
		a := drawnText(r, tag)
		b := changed(r, a)
		x, y := text.Key(tag, []byte(laid(tag, a))), text.Key(tag, []byte(laid(tag, b)))
		if x != y || !strings.HasPrefix(x, "=") {
			t.Fatalf("Key(%d) of %q: %q, of %q: %q", tag, a, x, b, y)
		}
		wantAlike(t, tag, laid(tag, a), tag, laid(tag, b), true)
	}
}

// P6.5: one text in two kinds is alike.
func TestOneTextInTwoKinds(t *testing.T) {
	r := rand.New(rand.NewSource(651))
	asked := 0
	for range 100000 {
		tag, other := pick(r, kinds()...), pick(r, kinds()...)
		s := drawnText(r, tag)
		if said, e := text.Text(other, []byte(laid(other, s))); e != api.OK || said != s {
			continue // the other kind can't say it
		}
		asked++
		wantAlike(t, tag, laid(tag, s), other, laid(other, s), true)
		wantAlike(t, tag, laid(tag, s), other, laid(other, changed(r, s)), true)
	}
	if asked < 30000 {
		t.Errorf("only %d texts were asked", asked)
	}
}

// P6.5: each is alike to itself; the order plays no part; what is alike to
// one is alike to all that it is alike to.
func TestAlikeIsAsTheSame(t *testing.T) {
	r := rand.New(rand.NewSource(652))
	type one struct {
		tag  int
		data []byte
	}
	draw := func() one {
		tag := drawnTag(r)
		return one{tag, []byte(laid(tag, pick(r, "", " ", "a", "A", " a", "a b", "A  B", "1", " 1", "\xff", "\xffa", "@", "€", "\x00A")))}
	}
	alike := func(a, b one) bool { return text.Alike(a.tag, a.data, b.tag, b.data) }
	linked := 0
	for range 500000 {
		a, b, c := draw(), draw(), draw()
		if !alike(a, a) {
			t.Fatalf("%v is not alike to itself", a)
		}
		if alike(a, b) != alike(b, a) {
			t.Fatalf("%v and %v: the order counts", a, b)
		}
		if alike(a, b) && alike(b, c) {
			linked++
			if !alike(a, c) {
				t.Fatalf("%v, %v and %v", a, b, c)
			}
		}
	}
	if linked < 1000 {
		t.Errorf("only %d rows of three were alike", linked)
	}
}
