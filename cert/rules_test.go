package cert_test

import (
	"math/rand"
	"reflect"
	"slices"
	"testing"

	"chirograph/api"
	"chirograph/cert"
)

func whole[T any](l []T) []T {
	return l[:cap(l)]
}

// roomy is l in other memory, with spare room in which something stands.
func roomy(l []byte) []byte {
	return append(slices.Clone(l), 11, 12, 13, 14, 15, 16, 17)[:len(l)]
}

func scribble(l []byte) {
	for i := range whole(l) {
		whole(l)[i] ^= 0xff
	}
}

// stretch is memory that a list has, spare room too.
type stretch struct{ from, to uintptr }

// stretches are those of all lists in v, the ones in spare room too.
func stretches(v reflect.Value) (l []stretch) {
	switch v.Kind() {
	case reflect.Struct:
		for i := range v.NumField() {
			l = append(l, stretches(v.Field(i))...)
		}
	case reflect.Slice:
		if v.Cap() == 0 {
			return nil
		}
		v = v.Slice(0, v.Cap())
		l = append(l, stretch{v.Pointer(), v.Pointer() + uintptr(v.Len())*v.Type().Elem().Size()})
		for i := range v.Len() {
			l = append(l, stretches(v.Index(i))...)
		}
	}
	return l
}

func wantApart(t *testing.T, what string, l []stretch) {
	t.Helper()
	for i, a := range l {
		for _, b := range l[:i] {
			if a.from < b.to && b.from < a.to {
				t.Errorf("%s: two lists share memory", what)
				return
			}
		}
	}
}

func memory(answers ...any) (l []stretch) {
	for _, a := range answers {
		l = append(l, stretches(reflect.ValueOf(a))...)
	}
	return l
}

// The rule of memory: no list of an answer is shared, with an argument, with
// another list, with another answer; what is handed in stays as it is.
func TestMemory(t *testing.T) {
	for _, c := range seeds() {
		b := roomy(c.bytes())
		was := slices.Clone(whole(b))
		x, e := cert.Parse(b)
		y, _ := cert.Parse(b)
		if e != api.OK {
			t.Fatalf("error %d", e)
		}
		wantApart(t, "certificates", memory(b, x, y))
		if !slices.Equal(whole(b), was) {
			t.Error("the argument was changed")
		}
		asked, _ := modelParse(c.bytes())
		scribble(b)
		if !same(x, asked) {
			t.Error("the answer changed with the argument")
		}
	}
}

func TestGeneralMemory(t *testing.T) {
	for _, x := range []api.Tlv{context(2, false, "abc"), context(4, true, string(hx(hexGermany))), context(7, false, "1234"), context(6, false, "x"), context(0, true, "y")} {
		x.Data = roomy(x.Data)
		x.Raw = roomy(el(0x80, x.Data))
		was, raw := slices.Clone(whole(x.Data)), slices.Clone(whole(x.Raw))
		g, _ := cert.General(x, false)
		h, _ := cert.General(x, false)
		wantApart(t, "names", memory(x, g, h))
		if !slices.Equal(whole(x.Data), was) || !slices.Equal(whole(x.Raw), raw) {
			t.Error("the argument was changed")
		}
		again, _ := generalOf(api.Tlv{Class: x.Class, Tag: x.Tag, Cons: x.Cons, Data: slices.Clone(x.Data)}, false)
		scribble(x.Data)
		scribble(x.Raw)
		if !same(g, again) {
			t.Error("the answer changed with the argument")
		}
	}
}

// What Signed, Own and Issues are handed stays as it is, spare room too.
func TestCertificatesStay(t *testing.T) {
	r := rand.New(rand.NewSource(128))
	k := newProduct(r)
	b := k.signed(seeds()[3]).bytes()
	c, _ := cert.Parse(b)
	was, _ := cert.Parse(b)
	c.Ski, c.Aki, c.Tbs, c.Sig = roomy(c.Ski), roomy(c.Aki), roomy(c.Tbs), roomy(c.Sig)
	room := slices.Concat(whole(c.Ski), whole(c.Aki), whole(c.Tbs), whole(c.Sig))
	for range 2 {
		wantSigned(t, "with spare room", c, k.key(), api.OK)
		if cert.Own(c) || cert.Issues(c, c) {
			t.Error("Own, Issues")
		}
	}
	if !same(c, was) || !slices.Equal(room, slices.Concat(whole(c.Ski), whole(c.Aki), whole(c.Tbs), whole(c.Sig))) {
		t.Error("an argument was changed")
	}
}

// What is told hangs on the arguments alone, not on what was asked before.
func TestNothingIsKept(t *testing.T) {
	for range 3 {
		wantNoExts(t, "twice", api.ErrTwice, other(1), other(1))
		wantExts(t, "once", nothing, other(1))
		wantNoExts(t, "too many", api.ErrMany, manyExts(65)...)
		wantExts(t, "a few", nothing, manyExts(3)...)
		wantNoParse(t, "nothing", nil, api.ErrForm)
		wantNoParse(t, "nothing", []byte{}, api.ErrForm)
		wantExts(t, "critical", func(c *api.Cert) { c.Unknown = true }, other(1, yes))
		wantLaid(t, "plain", plain(), nil)
	}
}

// No call panics, whatever it is given.
func TestNoPanics(t *testing.T) {
	r := rand.New(rand.NewSource(129))
	for range 3000 {
		b := make([]byte, r.Intn(60))
		r.Read(b)
		for i := range b {
			b[i] = pick(r, b[i], 0x30, 0x80, 0, 2, byte(len(b)))
		}
		wantModel(t, b)
	}
	for _, names := range [][][]api.Atv{nil, {nil}, {{}, {{}}}, {{{Type: "x", Tag: -1}}}} {
		for _, n := range [][]uint32{nil, {}, {0}, {1, 0}, often(600, uint32(7))} {
			for _, curve := range []int{0, 1, 2, 3, -1} {
				k := api.Key{Curve: curve, Rsa: api.RsaKey{N: n, E: n}, Point: api.Point{X: n, Y: n}}
				for kind := -1; kind < 5; kind++ {
					c := api.Cert{Issuer: names, Subject: names, Way: api.Alg{Kind: kind, Digest: api.Sha1, Mask: -7, Salt: -9}}
					if e := cert.Signed(c, k); e == api.OK {
						t.Error("signed by nobody")
					}
					if !cert.Own(c) || !cert.Issues(c, c) {
						t.Error("the same names")
					}
				}
			}
		}
	}
}
