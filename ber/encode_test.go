package ber_test

import (
	"math/rand"
	"slices"
	"testing"

	"chirograph/api"
	"chirograph/ber"
)

// noTrees break each clause of P3.1.
func noTrees() map[string][]api.Elem {
	null := of(1, 5, "")
	deep := make([]api.Elem, 0, api.MaxDepth+1)
	for d := range api.MaxDepth + 1 {
		deep = append(deep, in(d, 16))
	}
	many := append([]api.Elem{in(0, 16)}, slices.Repeat([]api.Elem{null}, api.MaxElems)...)
	return map[string][]api.Elem{
		"none":                            nil,
		"none of a list":                  {},
		"too many":                        many,
		"first at depth 1":                {null},
		"first at depth -1":               {of(-1, 5, "")},
		"first at depth -1, then 0":       {in(-1, 16), of(0, 5, "")},
		"second at depth 0":               {in(0, 16), of(0, 5, "")},
		"third at depth 0":                {in(0, 16), null, of(0, 5, "")},
		"second below 0":                  {in(0, 16), of(-1, 5, "")},
		"second far below 0":              {in(0, 16), of(-1<<63, 5, "")},
		"2 more":                          {in(0, 16), of(2, 5, "")},
		"far more":                        {in(0, 16), of(1<<63-1, 5, "")},
		"2 more further on":               {in(0, 16), in(1, 16), of(3, 5, "")},
		"1 more, not within a Cons":       {of(0, 4, ""), null},
		"1 more, not within a Cons later": {in(0, 16), null, of(2, 5, "")},
		"too deep":                        deep,
		"class -1":                        {{Class: -1, Tag: 5}},
		"class 4":                         {{Class: 4, Tag: 5}},
		"class 256":                       {{Class: 256, Tag: 5}},
		"class 4 within":                  {in(0, 16), {Depth: 1, Class: 4, Tag: 5}},
		"tag -1":                          {{Class: 1, Tag: -1}},
		"tag above":                       {{Class: 1, Tag: api.MaxTag + 1}},
		"tag far above":                   {{Class: 1, Tag: 1 << 32}},
		"tag above within":                {in(0, 16), {Depth: 1, Class: 3, Tag: api.MaxTag + 1}},
		"Universal 0":                     {{}},
		"Universal 0, Cons":               {{Cons: true}},
		"Universal 0 within":              {in(0, 16), {Depth: 1}},
		"Cons with Data":                  {{Tag: 16, Cons: true, Data: []byte{5}}},
		"Cons with Data within":           {in(0, 16), {Depth: 1, Tag: 4, Cons: true, Data: []byte{5}}, of(2, 4, "")},
	}
}

// P3.1, P3.4

func TestEncodeNoTree(t *testing.T) {
	for what, l := range noTrees() {
		wantNoEncode(t, what, l, api.ErrTree)
	}
}

func TestEncodeRows(t *testing.T) {
	for _, c := range []struct {
		l []api.Elem
		b string
	}{
		{[]api.Elem{of(0, 5, "")}, "05 00"},
		{[]api.Elem{in(0, 16)}, "30 00"},
		{[]api.Elem{{Tag: 16, Cons: true, Data: []byte{}}}, "30 00"},
		{[]api.Elem{in(0, 16), of(1, 2, "05")}, "30 03 02 01 05"},
		{[]api.Elem{in(0, 17), of(1, 2, "07"), of(1, 2, "05")}, "31 06 02 01 07 02 01 05"},
		{[]api.Elem{in(0, 16), in(1, 16), of(2, 5, ""), in(2, 17), in(1, 17), of(2, 4, "61"), of(1, 5, "")}, "30 0d 30 04 05 00 31 00 31 03 04 01 61 05 00"},
		{[]api.Elem{{Class: 1}}, "40 00"},
		{[]api.Elem{{Class: 3, Cons: true}, {Depth: 1, Class: 2, Tag: 3, Data: []byte{1}}}, "e0 03 83 01 01"},
		// Encode lays what is there, in whatever form.
		{[]api.Elem{in(0, 4), of(1, 4, "61")}, "24 03 04 01 61"},
		{[]api.Elem{of(0, 2, "0005")}, "02 02 00 05"},
		{[]api.Elem{of(0, 16, "ff")}, "10 01 ff"},
	} {
		wantEncode(t, c.l, hx(c.b))
	}
}

func TestEncodeTags(t *testing.T) {
	for _, c := range []struct {
		tag  int
		head string
	}{
		{0, "40"}, {1, "41"}, {30, "5e"}, {31, "5f 1f"}, {127, "5f 7f"}, {128, "5f 81 00"}, {16383, "5f ff 7f"}, {16384, "5f 81 80 00"},
		{2097151, "5f ff ff 7f"}, {2097152, "5f 81 80 80 00"}, {api.MaxTag, "5f ff ff ff 7f"},
	} {
		wantEncode(t, []api.Elem{{Class: 1, Tag: c.tag, Data: []byte{42}}}, cat(hx(c.head), []byte{1, 42}))
	}
	wantEncode(t, []api.Elem{{Tag: 31, Cons: true}}, hx("3f 1f 00"))
}

func TestEncodeLengths(t *testing.T) {
	for _, c := range []struct {
		n      int
		length string
	}{
		{0, "00"}, {1, "01"}, {127, "7f"}, {128, "81 80"}, {255, "81 ff"}, {256, "82 01 00"}, {65535, "82 ff ff"}, {65536, "83 01 00 00"},
	} {
		data := fill(c.n, 9)
		wantEncode(t, []api.Elem{{Tag: 4, Data: data}}, cat(hx("04"), hx(c.length), data))
		if c.n > 2 { // the length of what a Cons one is made of
			n := c.n - len(hx("04"+c.length))
			if inner, e := ber.Encode([]api.Elem{{Tag: 4, Data: data[:n]}}); e == api.OK && len(inner) == c.n {
				wantEncode(t, []api.Elem{in(0, 16), {Depth: 1, Tag: 4, Data: data[:n]}}, cat(hx("30"), hx(c.length), inner))
			}
		}
	}
}

func TestEncodeMostBytes(t *testing.T) {
	data := fill(api.MaxTotal-4, 'x')
	wantEncode(t, []api.Elem{{Tag: 4, Data: data[:api.MaxTotal-5]}}, cat(hx("04 83 ff ff fb"), data[1:]))
	wantNoEncode(t, "one more", []api.Elem{{Tag: 4, Data: data}}, api.ErrLong)
	wantEncode(t, []api.Elem{in(0, 16), {Depth: 1, Tag: 4, Data: data[:api.MaxTotal-10]}}, cat(hx("30 83 ff ff fb 04 83 ff ff f6"), data[6:]))
	wantNoEncode(t, "one more within", []api.Elem{in(0, 16), {Depth: 1, Tag: 4, Data: data[:api.MaxTotal-9]}}, api.ErrLong)
	wantNoEncode(t, "one more behind", []api.Elem{in(0, 16), {Depth: 1, Tag: 4, Data: data[:api.MaxTotal-12]}, of(1, 4, "61")}, api.ErrLong)
	wantNoEncode(t, "one more ahead", []api.Elem{in(0, 16), of(1, 4, "61"), {Depth: 1, Tag: 4, Data: data[:api.MaxTotal-12]}}, api.ErrLong)
	wantNoEncode(t, "far more", []api.Elem{{Tag: 4, Data: make([]byte, 3*api.MaxTotal)}}, api.ErrLong)
}

// One list in many elements: more than could be laid at all.
func TestEncodeFarTooLong(t *testing.T) {
	data := make([]byte, 1<<15)
	l := append([]api.Elem{in(0, 16)}, slices.Repeat([]api.Elem{{Depth: 1, Tag: 4, Data: data}}, api.MaxElems-1)...)
	wantNoEncode(t, "many long ones", l, api.ErrLong)
}

func TestEncodeTreeAheadOfLong(t *testing.T) {
	data := make([]byte, api.MaxTotal+1)
	wantNoEncode(t, "long and no tree", []api.Elem{in(0, 16), {Depth: 1, Tag: 4, Data: data}, of(0, 5, "")}, api.ErrTree)
	wantNoEncode(t, "long and no tree", []api.Elem{{Tag: 4, Cons: true, Data: data}}, api.ErrTree)
}

func TestEncodeDepthAndMany(t *testing.T) {
	var l []api.Elem
	for d := range api.MaxDepth {
		l = append(l, in(d, 16))
	}
	wantEncode(t, l, nested(api.MaxDepth, false))
	many := append([]api.Elem{in(0, 16)}, slices.Repeat([]api.Elem{of(1, 5, "")}, api.MaxElems-1)...)
	wantEncode(t, many, wide(api.MaxElems, false))
}

// P3.7: Parse undoes Encode; what Encode answers is the shortest.
func TestParseUndoesEncode(t *testing.T) {
	r := rand.New(rand.NewSource(4))
	for range 3000 {
		x := anyTree(r, 0)
		b, e := ber.Encode(x.row(0))
		if e != api.OK || !slices.Equal(b, x.lay(nil)) {
			t.Errorf("Encode: %x, error %d; wanted %x", b, e, x.lay(nil))
		}
		wantParse(t, b, x.row(0))
		if c := x.lay(r); len(c) < len(b) {
			t.Errorf("%x is shorter than %x", c, b)
		}
	}
	for _, n := range []int{127, 128, 255, 256, 65535, 65536, 200000} {
		l := []api.Elem{in(0, 16), {Depth: 1, Class: 2, Tag: api.MaxTag, Data: fill(n, 3)}, of(1, 5, "")}
		b, e := ber.Encode(l)
		if e != api.OK {
			t.Errorf("Encode: error %d", e)
		}
		wantParse(t, b, l)
	}
}
