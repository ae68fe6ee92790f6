package text_test

import (
	"math/rand"
	"slices"
	"testing"

	"chirograph/api"
	"chirograph/text"
)

// roomy has spare room in which something stands.
func roomy(s string) []byte {
	return append([]byte(s), "\xffA 0\xd8\x00"...)[:len(s)]
}

func whole(b []byte) []byte {
	return b[:cap(b)]
}

// The rule of memory: what is handed in stays as it is, spare room too, and
// spare room plays no part in the answer.
func TestArgumentsStay(t *testing.T) {
	r := rand.New(rand.NewSource(66))
	for range 20000 {
		tag, s := drawnTag(r), drawnBytes(r)
		a, b := roomy(s), roomy(s)
		was := slices.Clone(whole(a))
		said, e := text.Text(tag, a)
		if want, err := modelText(tag, s); said != want || e != err {
			t.Fatalf("Text(%d, %q) with spare room: %q, error %d", tag, s, said, e)
		}
		if text.Key(tag, a) != modelKey(tag, s) || !text.Alike(tag, a, tag, b) {
			t.Fatalf("Key(%d, %q) with spare room", tag, s)
		}
		if !slices.Equal(whole(a), was) || !slices.Equal(whole(b), was) {
			t.Fatalf("%d, %q: the argument was changed", tag, s)
		}
	}
}

// An answer stays as it is when the bytes that were handed in change.
func TestAnswersStandApart(t *testing.T) {
	for _, tag := range append(kinds(), 4) {
		data := []byte(laid(tag, "12 34"))
		said, _ := text.Text(tag, data)
		key := text.Key(tag, data)
		was, keyWas := string([]byte(said)), string([]byte(key))
		for i := range data {
			data[i] ^= 1
		}
		if said != was || key != keyWas {
			t.Errorf("kind %d: an answer changed with its argument", tag)
		}
	}
}

// Nil and empty lists are alike; what is asked twice is answered alike.
func TestNilAndEmpty(t *testing.T) {
	for _, b := range [][]byte{nil, {}, nil} {
		for _, tag := range kinds() {
			if s, e := text.Text(tag, b); s != "" || e != api.OK || text.Key(tag, b) != "=" {
				t.Errorf("kind %d, nothing: %q, error %d, %q", tag, s, e, text.Key(tag, b))
			}
		}
		if s, e := text.Text(4, b); s != "" || e != api.ErrKind || text.Key(4, b) != "#4:" {
			t.Errorf("no kind, nothing: %q, error %d, %q", s, e, text.Key(4, b))
		}
		if !text.Alike(4, b, 4, []byte{}) || !text.Alike(4, nil, 4, b) {
			t.Error("nil and empty are not alike")
		}
	}
}
