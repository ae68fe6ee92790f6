package der_test

import (
	"slices"
	"testing"

	"chirograph/api"
	"chirograph/der"
)

// roomy has spare room in which something stands.
func roomy[T byte | uint32](l []T) []T {
	return append(slices.Clone(l), 11, 12, 13, 14, 15, 16)[:len(l)]
}

func whole[T any](l []T) []T {
	return l[:cap(l)]
}

func scribble[T byte | uint32](l []T) {
	for i := range whole(l) {
		whole(l)[i] ^= 0xff
	}
}

// lists are an element's two.
func lists(l []api.Tlv) (m [][]byte) {
	for _, x := range l {
		m = append(m, x.Data, x.Raw)
	}
	return m
}

func wholes(l [][]byte) (m [][]byte) {
	for _, b := range l {
		m = append(m, slices.Clone(whole(b)))
	}
	return m
}

// The rule of memory: what is handed in stays as it is, spare room too, and is
// not kept: scribbling on it afterwards is not seen in the answer.
func TestArgumentsStay(t *testing.T) {
	for _, s := range []string{"", "05 00", "02 01 05 30 02 05 00", "03 02 03 f8", "00 05", "00 ff", "ff 7f", "2a 86 48", "05 a0", "00", "ff", "80"} {
		b := roomy(hx(s))
		was := slices.Clone(whole(b))
		l, _, _ := der.Split(b)
		x, _ := der.One(b)
		p, _ := der.Put(0, 4, false, b, b)
		n, _ := der.Uint(b)
		v, _, _ := der.Bits(b)
		der.Bool(b)
		der.Int(b)
		der.Flags(b)
		der.Oid(b)
		if !slices.Equal(whole(b), was) {
			t.Errorf("%s: the argument was changed", s)
		}
		scribble(b)
		m, _, _ := der.Split(hx(s))
		y, _ := der.One(hx(s))
		q, _ := der.Put(0, 4, false, hx(s), hx(s))
		k, _ := der.Uint(hx(s))
		w, _, _ := der.Bits(hx(s))
		if !same(l, m) || !sameTlv(x, y) || !slices.Equal(p, q) || !slices.Equal(n, k) || !slices.Equal(v, w) {
			t.Errorf("%s: an answer keeps what was handed in", s)
		}
	}
}

func TestNumbersAndListsStay(t *testing.T) {
	for _, n := range [][]uint32{nil, {0}, {255, 0}, {1, 2, 3}, {0xffffffff, 0xffffffff}} {
		a := roomy(n)
		was := slices.Clone(whole(a))
		b := der.PutUint(a)
		if !slices.Equal(whole(a), was) {
			t.Errorf("PutUint(%v): the argument was changed", n)
		}
		scribble(a)
		if !slices.Equal(b, der.PutUint(n)) {
			t.Errorf("PutUint(%v): the answer keeps what was handed in", n)
		}
	}
	data := [][]byte{roomy(hx("61")), roomy(hx("62 63")), nil, hx("64")}[:3]
	was := wholes(whole(data))
	list := slices.Clone(whole(data))
	b, _ := der.Put(0, 4, false, data...)
	for i, d := range whole(data) {
		if !slices.Equal(whole(d), was[i]) || len(d) != len(list[i]) {
			t.Errorf("Put: piece %d was changed", i)
		}
	}
	for _, d := range data {
		scribble(d)
	}
	if !slices.Equal(b, hx("04 03 61 62 63")) {
		t.Errorf("Put: %x keeps what was handed in", b)
	}
}

// Data and Raw, of one element or of several, of one answer or of two, share
// no memory, spare room too.
func TestAnswersStandApart(t *testing.T) {
	for _, s := range []string{"02 01 05", "30 00", "02 01 05 30 02 05 00", "05 00 04 03 61 62 63 05 00", "5f 81 00 05 01 02 03 04 05"} {
		b := hx(s)
		first, _, _ := der.Split(b)
		second, _, _ := der.Split(b)
		all := append(lists(first), lists(second)...)
		if x, e := der.One(b); e == api.OK {
			all = append(all, x.Data, x.Raw)
		}
		for i := range all {
			was := wholes(all)
			scribble(all[i])
			for j := range all {
				if j != i && !slices.Equal(whole(all[j]), was[j]) {
					t.Errorf("%s: lists %d and %d share memory", s, i, j)
				}
			}
			scribble(all[i])
		}
		for i := range whole(first) {
			whole(first)[i] = api.Tlv{Tag: 77}
		}
		if third, _, _ := der.Split(b); !same(second, third) || !slices.Equal(b, hx(s)) {
			t.Errorf("%s: two answers share memory", s)
		}
	}
}

func TestBytesStandApart(t *testing.T) {
	for i, f := range []func() []byte{
		func() []byte { b, _ := der.Put(0, 4, false, hx("61")); return b },
		func() []byte { b, _ := der.PutOid("1.2.840"); return b },
		func() []byte { b, _, _ := der.Bits(hx("03 f8")); return b },
		func() []byte { return der.PutInt(-129) },
		func() []byte { return der.PutInt(0) },
		func() []byte { return der.PutUint(nil) },
		func() []byte { return der.PutUint([]uint32{255}) },
	} {
		a, b := f(), f()
		was := slices.Clone(whole(b))
		scribble(a)
		if !slices.Equal(whole(b), was) || !slices.Equal(f(), b) {
			t.Errorf("answers of function %d share memory", i)
		}
	}
	a, _ := der.Uint(hx("05"))
	b, _ := der.Uint(hx("05"))
	scribble(a)
	if !slices.Equal(b, []uint32{5}) {
		t.Error("answers of Uint share memory")
	}
}

// Nil and empty lists are alike.
func TestNilAndEmpty(t *testing.T) {
	for _, b := range [][]byte{nil, {}} {
		wantSplit(t, b)
		wantPut(t, hx("05 00"), 0, 5, false, b)
		wantBool(t, b, false, api.ErrForm)
		wantInt(t, b, 0, api.ErrForm)
		wantUint(t, b, nil, api.ErrForm)
		wantBits(t, b, nil, 0, api.ErrForm)
		wantFlags(t, b, 0, api.ErrForm)
		wantNoOid(t, b, api.ErrForm)
	}
	wantPutUint(t, nil, hx("00"))
	wantPutUint(t, []uint32{}, hx("00"))
	wantPut(t, hx("05 00"), 0, 5, false, [][]byte{}...)
}
