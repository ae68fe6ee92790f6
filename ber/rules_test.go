package ber_test

import (
	"slices"
	"testing"

	"chirograph/api"
	"chirograph/ber"
)

// roomy has spare room in which something stands.
func roomy(b []byte) []byte {
	l := append(slices.Clone(b), 11, 12, 13, 14, 15, 16)
	return l[:len(b)]
}

func whole[T any](l []T) []T {
	return l[:cap(l)]
}

func scribble(b []byte) {
	for i := range whole(b) {
		whole(b)[i] ^= 0xff
	}
}

// scribbleRow writes over a row and all its Data, spare room too.
func scribbleRow(l []api.Elem) {
	for i := range whole(l) {
		scribble(whole(l)[i].Data)
		whole(l)[i] = api.Elem{Depth: 77, Data: []byte{7}}
	}
}

// roomyRow has a row whose Data, and which itself, have spare room.
func roomyRow(l []api.Elem) []api.Elem {
	m := make([]api.Elem, 0, len(l)+3)
	for _, x := range l {
		x.Data = roomy(x.Data)
		m = append(m, x)
	}
	for i := range whole(m)[len(m):] {
		whole(m)[len(m)+i] = of(i, 4, "7172")
	}
	return m
}

// copied is a row with all that is in it, spare room too.
func copied(l []api.Elem) []api.Elem {
	m := slices.Clone(whole(l))
	for i := range m {
		m[i].Data = slices.Clone(whole(m[i].Data))
	}
	return m
}

func unchanged(l, was []api.Elem) bool {
	return slices.EqualFunc(whole(l), was, func(x, y api.Elem) bool {
		x.Data = whole(x.Data)
		return sameElem(x, y)
	})
}

// rows are what memory is asked of: strings in segments, Sets out of order,
// Bools and Bits that are written anew.
func rows() [][]api.Elem {
	return [][]api.Elem{
		{of(0, 4, "616263")},
		{of(0, 1, "05")},
		{of(0, 3, "04ff")},
		{in(0, 16), of(1, 4, ""), of(1, 5, ""), of(1, 4, "61")},
		{in(0, 4), of(1, 4, "6162")},
		{in(0, 4), of(1, 4, "6162"), of(1, 4, "63")},
		{in(0, 3), of(1, 3, "0061"), of(1, 3, "04ff")},
		{in(0, 17), of(1, 2, "07"), of(1, 2, "05"), in(1, 17), of(2, 4, "62"), of(2, 4, "61"), of(1, 1, "01")},
		{{Class: 2, Cons: true}, {Depth: 1, Class: 2, Tag: 1, Data: []byte{1, 2}}, of(1, 3, "01ff")},
	}
}

// The rule of memory: what is handed in stays as it is, spare room too, and is
// not kept: scribbling on it afterwards is not seen in the answer.
func TestArgumentsStay(t *testing.T) {
	for _, row := range rows() {
		l := roomyRow(row)
		was := copied(l)
		laid, _ := ber.Encode(row)
		normal, _, _ := modelNormal(row)
		b, e := ber.Encode(l)
		m, e2, _ := ber.Normal(l)
		if e != api.OK || e2 != api.OK || !unchanged(l, was) {
			t.Errorf("%v: errors %d, %d, or the argument was changed", row, e, e2)
		}
		scribbleRow(l)
		if !slices.Equal(b, laid) || !same(m, normal) {
			t.Errorf("%v: an answer keeps what was handed in", row)
		}

		bytes := roomy(laid)
		before := slices.Clone(whole(bytes))
		p, _, _ := ber.Parse(bytes)
		d, _ := ber.ToDer(bytes)
		again := slices.Clone(d)
		ber.IsDer(bytes)
		if !slices.Equal(whole(bytes), before) {
			t.Errorf("%x: the argument was changed", laid)
		}
		scribble(bytes)
		if !same(p, row) || !slices.Equal(d, again) {
			t.Errorf("%x: an answer keeps what was handed in", laid)
		}
	}
}

// What is read, or brought into the one way, has lists of its own: writing over
// one, spare room too, is seen in no other one, nor in what was handed in.
func TestAnswersStandApart(t *testing.T) {
	for _, row := range rows() {
		laid, _ := ber.Encode(row)
		for i := range row {
			l, _, _ := ber.Parse(laid)
			apart(t, l, min(i, len(l)-1))
			m, _, _ := ber.Normal(row)
			apart(t, m, min(i, len(m)-1))
		}
		first, _, _ := ber.Normal(row)
		second, _, _ := ber.Normal(row)
		was := copied(second)
		scribbleRow(first)
		if !unchanged(second, was) {
			t.Errorf("%v: two answers share memory", row)
		}
		d, _ := ber.ToDer(laid)
		again, _ := ber.ToDer(laid)
		kept := slices.Clone(again)
		scribble(d)
		if !slices.Equal(again, kept) {
			t.Errorf("%x: two answers share memory", laid)
		}
	}
	for i, row := range rows() {
		if !same(row, rows()[i]) {
			t.Errorf("row %d was written over", i)
		}
	}
}

// apart writes over one element's Data and asks for the others.
func apart(t *testing.T, l []api.Elem, i int) {
	t.Helper()
	was := copied(l)
	scribble(l[i].Data)
	for j := range l {
		if j != i && !slices.Equal(whole(l[j].Data), was[j].Data) {
			t.Errorf("elements %d and %d share memory", i, j)
		}
	}
}

// One list in two elements is like two lists that are alike.
func TestSameListTwice(t *testing.T) {
	data := []byte{1, 255}
	l := []api.Elem{in(0, 17), {Depth: 1, Tag: 3, Data: data}, {Depth: 1, Tag: 4, Data: data}, {Depth: 1, Tag: 3, Data: data}}
	m, e, _ := ber.Normal(l)
	if e != api.OK || !same(m, []api.Elem{in(0, 17), of(1, 3, "01fe"), of(1, 3, "01fe"), of(1, 4, "01ff")}) || data[1] != 255 {
		t.Errorf("Normal: %v, error %d", m, e)
	}
	for i := range m {
		apart(t, m, i)
	}
}

// Nil and empty lists are alike.
func TestNilAndEmpty(t *testing.T) {
	for _, data := range [][]byte{nil, {}} {
		wantEncode(t, []api.Elem{{Tag: 5, Data: data}}, hx("05 00"))
		wantEncode(t, []api.Elem{{Tag: 16, Cons: true, Data: data}}, hx("30 00"))
		wantNormal(t, []api.Elem{{Tag: 4, Cons: true, Data: data}, {Depth: 1, Tag: 4, Data: data}}, []api.Elem{{Tag: 4}})
		wantNoParse(t, data, api.ErrShort, 0)
	}
}

// The rule of the first error: more bytes than may be are told ahead of all
// else, no tree ahead of the rest.
func TestFirstError(t *testing.T) {
	long := fill(api.MaxTotal+1, 0)
	for _, c := range []byte{0, 0x04, 0x1f, 0x30, 0xff} {
		long[0], long[1] = c, 0x80
		wantNoParse(t, long, api.ErrLong, 0)
		wantNoDer(t, long, api.ErrLong)
	}
	wantNoEncode(t, "no tree and too long", []api.Elem{{Tag: 4, Data: long}, of(0, 5, "")}, api.ErrTree)
	wantNoNormal(t, "no tree and an unknown tag", []api.Elem{of(0, 7, ""), of(0, 7, "")}, api.ErrTree, 0)
}
