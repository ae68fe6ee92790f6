package name_test

import (
	"math/rand"
	"slices"
	"testing"

	"chirograph/api"
	"chirograph/name"
)

// roomy has spare room in which something stands.
func roomy(s string) []byte {
	return append([]byte(s), "\x30\x00\xffA 0"...)[:len(s)]
}

func whole[T any](l []T) []T {
	return l[:cap(l)]
}

// roomyName is n in other memory, with spare room in each of its lists.
func roomyName(n row) row {
	m := make(row, 0, len(n)+2)
	for _, s := range n {
		c := make(set, 0, len(s)+2)
		for _, x := range s {
			c = append(c, api.Atv{Type: x.Type, Tag: x.Tag, Data: roomy(string(x.Data))})
		}
		m = append(m, append(c, cn("spare"), cn("room"))[:len(s)])
	}
	return append(m, set{cn("spare")}, set{})[:len(n)]
}

// all is a copy of n with all its spare room.
func all(n row) row {
	var m row
	for _, s := range whole(n) {
		var c set
		for _, x := range whole(s) {
			c = append(c, api.Atv{Type: x.Type, Tag: x.Tag, Data: slices.Clone(whole(x.Data))})
		}
		m = append(m, c)
	}
	return m
}

// The rule of memory: names that are handed in stay as they are, spare room
// too, and spare room plays no part in the answer.
func TestNamesStay(t *testing.T) {
	r := rand.New(rand.NewSource(78))
	for range 10000 {
		n, m := drawn(r), drawn(r)
		if r.Intn(8) == 0 {
			m = append(m, pick(r, set{}, set{wrongAtv(r)}))
		}
		a, b := roomyName(n), roomyName(m)
		wasA, wasB := all(a), all(b)
		laid, e := name.Build(b)
		if want, err := modelBuild(m); string(laid) != want || e != err {
			t.Fatalf("Build(%v) with spare room: %x, error %d", m, laid, e)
		}
		wantKey(t, a, modelKey(n))
		wantShow(t, a, modelShow(n))
		wantSame(t, a, b, modelKey(n) == modelKey(m))
		wantWithin(t, a, b, modelWithin(n, m))
		if !equal(all(a), wasA) || !equal(all(b), wasB) {
			t.Fatalf("%v, %v: an argument was changed", n, m)
		}
		if t.Failed() {
			return
		}
	}
}

// The rule of memory: bytes that are handed in stay as they are.
func TestBytesStay(t *testing.T) {
	r := rand.New(rand.NewSource(79))
	for range 10000 {
		s := laidByChance(r)
		b := roomy(s)
		was := slices.Clone(whole(b))
		n, e := name.Parse(b)
		if want, err := modelParse([]byte(s)); e != err || !equal(n, want) {
			t.Fatalf("Parse(%x) with spare room: %v, error %d", s, n, e)
		}
		if !slices.Equal(whole(b), was) {
			t.Fatalf("Parse(%x): the argument was changed", s)
		}
	}
}

// scribble writes over all that l has, spare room too.
func scribble(l []byte) {
	for i := range whole(l) {
		whole(l)[i] ^= 0xff
	}
}

// An answer is new memory: it stays as it is when what was handed in changes,
// and when another answer does.
func TestAnswersStandApart(t *testing.T) {
	n := row{{cn("a"), cn("b")}, {cn("c"), cn("")}, {atv("1.2", 4, "\x01\x02")}}
	b, _ := name.Build(n)
	c, _ := name.Build(n)
	key, show := name.Key(n), name.Show(n)
	wasKey, wasShow := string([]byte(key)), string([]byte(show))
	was := slices.Clone(b)
	m, _ := name.Parse(b)
	o, _ := name.Parse(b)
	read := all(m)
	for _, s := range n {
		for i := range s {
			scribble(s[i].Data)
			s[i] = api.Atv{}
		}
	}
	scribble(c)
	if !slices.Equal(b, was) || key != wasKey || show != wasShow {
		t.Error("an answer changed with its argument, or with another one")
	}
	scribble(b)
	for _, s := range o {
		for i := range whole(s) {
			scribble(whole(s)[i].Data)
			whole(s)[i] = api.Atv{}
		}
	}
	if !equal(all(m), read) {
		t.Error("what was read changed with the bytes, or with another answer")
	}
}

// No two lists of an answer share memory, nor their spare room.
func TestListsStandApart(t *testing.T) {
	b := seq(setOf(part(word), part("\x0c\x00")), setOf(part("\x0c\x02bc")), setOf(part("\x0c\x01d"), part("\x0c\x01e")))
	want, _ := modelParse([]byte(b))
	for i, s := range want {
		for j := range s {
			n, _ := name.Parse([]byte(b))
			scribble(n[i][j].Data)
			n[i][j].Data = nil
			_ = append(n[i], cn("x"), cn("y"))
			left, _ := modelParse([]byte(b))
			left[i][j].Data = nil
			if !equal(n, left) {
				t.Errorf("part %d of set %d shares memory", j, i)
			}
		}
	}
}

// Nil and empty lists are alike; what is asked twice is answered alike.
func TestNilAndEmpty(t *testing.T) {
	for range 2 {
		wantNoParse(t, "", api.ErrNone)
		if n, e := name.Parse(nil); len(n) != 0 || e != api.ErrNone {
			t.Errorf("Parse(nil): %v, error %d", n, e)
		}
		wantBuild(t, one(api.Atv{Type: "1.2", Tag: 4}), seq(setOf(seq("\x06\x01\x2a", "\x04\x00"))))
		wantBuild(t, one(api.Atv{Type: "1.2", Tag: 4, Data: []byte{}}), seq(setOf(seq("\x06\x01\x2a", "\x04\x00"))))
		wantSame(t, one(api.Atv{Type: "1.2", Tag: 4}), one(api.Atv{Type: "1.2", Tag: 4, Data: []byte{}}), true)
		wantShow(t, one(api.Atv{Type: "1.2", Tag: 4}), "1.2=#")
	}
}
