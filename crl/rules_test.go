package crl_test

import (
	"math"
	"math/rand"
	"reflect"
	"slices"
	"testing"

	"chirograph/api"
	"chirograph/crl"
)

func whole[T any](l []T) []T {
	return l[:cap(l)]
}

// roomy is l in other memory, with spare room in which something stands.
func roomy[T byte | int](l []T) []T {
	return append(slices.Clone(l), 11, 12, 13, 14, 15, 16, 17)[:len(l)]
}

func scribble(l []byte) {
	for i := range whole(l) {
		whole(l)[i] ^= 0xff
	}
}

// stretch is memory that a list has, spare room too.
type stretch struct{ from, to uintptr }

// stretches are those of all lists in v, the ones in spare room too.
func stretches(v reflect.Value) (l []stretch) {
	switch v.Kind() {
	case reflect.Struct:
		for i := range v.NumField() {
			l = append(l, stretches(v.Field(i))...)
		}
	case reflect.Slice:
		if v.Cap() == 0 {
			return nil
		}
		v = v.Slice(0, v.Cap())
		l = append(l, stretch{v.Pointer(), v.Pointer() + uintptr(v.Len())*v.Type().Elem().Size()})
		for i := range v.Len() {
			l = append(l, stretches(v.Index(i))...)
		}
	}
	return l
}

func wantApart(t *testing.T, what string, answers ...any) {
	t.Helper()
	var l []stretch
	for _, a := range answers {
		l = append(l, stretches(reflect.ValueOf(a))...)
	}
	for i, a := range l {
		for _, b := range l[:i] {
			if a.from < b.to && b.from < a.to {
				t.Errorf("%s: two lists share memory", what)
				return
			}
		}
	}
}

// The rule of memory: no list of an answer is shared, with an argument, with
// another list, with another answer; what is handed in stays as it is.
func TestMemory(t *testing.T) {
	for _, c := range seeds() {
		b := roomy(c.bytes())
		was := slices.Clone(whole(b))
		x, e := crl.Parse(b)
		y, _ := crl.Parse(b)
		if e != api.OK {
			t.Fatalf("error %d", e)
		}
		wantApart(t, "lists", b, x, y)
		if !slices.Equal(whole(b), was) {
			t.Error("the argument was changed")
		}
		asked, _ := modelParse(c.bytes())
		scribble(b)
		if !same(x, asked) {
			t.Error("the answer changed with the argument")
		}
	}
}

func TestFindMemory(t *testing.T) {
	c, _ := crl.Parse(seeds()[2].bytes())
	was, _ := crl.Parse(seeds()[2].bytes())
	for i := range c.Gone {
		c.Gone[i].Serial = roomy(c.Gone[i].Serial)
	}
	for _, g := range was.Gone {
		serial := roomy(g.Serial)
		x, ok := crl.Find(c, serial)
		y, _ := crl.Find(c, serial)
		if !ok {
			t.Fatalf("%x is not found", serial)
		}
		wantApart(t, "what is found", c, serial, x, y)
		scribble(x.Serial)
		scribble(y.Serial)
		if !slices.Equal(whole(serial), whole(roomy(g.Serial))) {
			t.Error("the serial was changed")
		}
	}
	if !same(c, was) {
		t.Error("the list was changed")
	}
}

// What Signed, Fresh, Find, Counts are handed stays as it is, spare room too.
func TestArgumentsStay(t *testing.T) {
	r := rand.New(rand.NewSource(137))
	k := newProduct(r)
	b := k.signed(seeds()[2]).bytes()
	c, _ := crl.Parse(b)
	was, _ := crl.Parse(b)
	late := roomy([]int{4, 1})
	c.Tbs, c.Sig, c.Aki = roomy(c.Tbs), roomy(c.Sig), roomy(c.Aki)
	room := slices.Concat(whole(c.Tbs), whole(c.Sig), whole(c.Aki))
	for range 2 {
		wantSigned(t, "with spare room", c, k.key(), api.OK)
		g, ok := crl.Find(c, []byte{1})
		if !ok || !crl.Fresh(c, c.This) || crl.Counts(g, g.At-1, late) || !crl.Counts(api.Gone{At: 5, Reason: 11}, 4, late) {
			t.Error("Find, Fresh, Counts")
		}
	}
	if !same(c, was) || !slices.Equal(room, slices.Concat(whole(c.Tbs), whole(c.Sig), whole(c.Aki))) || !slices.Equal(whole(late), whole(roomy([]int{4, 1}))) {
		t.Error("an argument was changed")
	}
}

// What is told hangs on the arguments alone, not on what was asked before.
func TestNothingIsKept(t *testing.T) {
	for range 3 {
		wantNoExts(t, "twice", api.ErrTwice, other(1), other(1))
		wantExts(t, "once", nothing, other(1))
		wantNoEntry(t, "too many", api.ErrMany, manyExts(65)...)
		wantEntry(t, "a few", 0, false, manyExts(3)...)
		wantNoParse(t, "nothing", nil, api.ErrForm)
		wantNoParse(t, "nothing", []byte{}, api.ErrForm)
		wantExts(t, "critical", func(c *api.Crl) { c.Unknown = true }, other(1, yes))
		wantLaid(t, "plain", plain(), nothing)
	}
}

// No call panics, whatever it is given.
func TestNoPanics(t *testing.T) {
	r := rand.New(rand.NewSource(138))
	for range 3000 {
		b := make([]byte, r.Intn(60))
		r.Read(b)
		for i := range b {
			b[i] = pick(r, b[i], 0x30, 0x80, 0, 2, byte(len(b)))
		}
		wantModel(t, b)
	}
	for _, n := range [][]uint32{nil, {}, {0}, {1, 0}, often(600, uint32(7))} {
		for _, curve := range []int{0, 1, 2, 3, -1} {
			k := api.Key{Curve: curve, Rsa: api.RsaKey{N: n, E: n}, Point: api.Point{X: n, Y: n}}
			for kind := -1; kind < 5; kind++ {
				c := api.Crl{Way: api.Alg{Kind: kind, Digest: api.Sha1, Mask: -7, Salt: -9}}
				if e := crl.Signed(c, k); e == api.OK {
					t.Error("signed by nobody")
				}
			}
		}
	}
	for _, at := range []int{math.MinInt, -1, 0, math.MaxInt} {
		if !crl.Fresh(api.Crl{This: math.MinInt, Open: true}, at) || !crl.Counts(api.Gone{At: math.MinInt}, at, []int{0}) {
			t.Error("Fresh, Counts")
		}
	}
}
