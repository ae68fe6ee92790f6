package ber_test

import (
	"math/rand"
	"slices"
	"testing"

	"chirograph/api"
	"chirograph/ber"
)

// P3.5

func TestNormalNoTree(t *testing.T) {
	for what, l := range noTrees() {
		wantNoNormal(t, what, l, api.ErrTree, 0)
	}
	// Told ahead of what is wrong with the elements.
	wantNoNormal(t, "no tree, and an Int of none", []api.Elem{in(0, 16), of(1, 2, ""), of(0, 5, "")}, api.ErrTree, 0)
}

func TestNormalKnownTags(t *testing.T) {
	known := knownTags()
	for tag := 1; tag < 200; tag++ {
		cons := tag == api.TagSeq || tag == api.TagSet
		l := []api.Elem{in(0, 16), {Depth: 1, Tag: tag, Cons: cons, Data: formed(tag)}}
		if slices.Contains(known, tag) {
			wantNormal(t, l, l)
		} else {
			wantNoNormal(t, "unknown tag", l, api.ErrTag, 1)
			wantNoNormal(t, "unknown tag", []api.Elem{{Tag: tag, Cons: true}}, api.ErrTag, 0)
		}
		// Of other classes nothing is asked.
		for class := 1; class < 4; class++ {
			for _, x := range []api.Elem{{Depth: 1, Class: class, Tag: tag, Data: hx("80 00 05")}, {Depth: 1, Class: class, Tag: tag, Cons: true}, {Depth: 1, Class: class, Tag: tag}} {
				wantNormal(t, []api.Elem{in(0, 16), x}, []api.Elem{in(0, 16), x})
			}
		}
	}
	wantNoNormal(t, "MaxTag", []api.Elem{{Tag: api.MaxTag}}, api.ErrTag, 0)
}

// formed has Data that an element with the tag may have.
func formed(tag int) []byte {
	switch tag {
	case api.TagBool, api.TagBits:
		return []byte{0}
	case api.TagInt, api.TagEnum, api.TagOid:
		return []byte{5}
	}
	return nil
}

func TestNormalCons(t *testing.T) {
	for _, tag := range plainTags {
		wantNoNormal(t, "Cons", []api.Elem{in(0, tag)}, api.ErrCons, 0)
		wantNoNormal(t, "Cons", []api.Elem{in(0, 16), of(1, 5, ""), in(1, tag), of(2, tag, "05")}, api.ErrCons, 2)
	}
	for _, tag := range []int{api.TagSeq, api.TagSet} {
		wantNoNormal(t, "not Cons", []api.Elem{of(0, tag, "")}, api.ErrCons, 0)
		wantNoNormal(t, "not Cons", []api.Elem{in(0, tag), of(1, tag, "0500")}, api.ErrCons, 1)
	}
}

func TestNormalForms(t *testing.T) {
	for _, c := range []struct {
		tag         int
		right, none []string
	}{
		{api.TagBool, []string{"00", "ff"}, []string{"", "0000", "ffff", "00ff", "010101"}},
		{api.TagInt, []string{"00", "05", "7f", "80", "ff", "0080", "00ff", "ff7f", "ff00", "0100", "7fff", "8000", "80ffff", "00800000", "fe80"},
			[]string{"", "0000", "0005", "007f", "ff80", "ffff", "ff81", "000080", "ffff00", "ff8000"}},
		{api.TagEnum, []string{"00", "ff", "0080", "ff7f"}, []string{"", "0000", "007f", "ff80", "ffff"}},
		{api.TagNull, []string{""}, []string{"00", "05", "0000"}},
		{api.TagOid, []string{"00", "2a", "7f", "8100", "2a8648", "ff7f", "2a8601", "818000", "2a818001", "ff807f"},
			[]string{"", "80", "ff", "2a80", "2a86", "8001", "808001", "2a8001", "2a80", "2a03ff", "2a818080", "7f8000", "2a00800001"}},
		{api.TagBits, []string{"00", "0000", "00ff", "0180", "07 80", "07ff80", "01fe", "04616260"}, []string{"", "01", "07", "08", "0800", "ff", "ff00", "80ff"}},
		{api.TagOctets, []string{"", "00", "80", "ffff"}, nil},
		{api.TagUtf8, []string{"", "80", "ff00"}, nil},
		{api.TagUtc, []string{"", "80", "ff00"}, nil},
		{api.TagBmp, []string{"", "80", "ff0000"}, nil},
	} {
		for _, data := range c.right {
			wantNormal(t, []api.Elem{of(0, c.tag, data)}, []api.Elem{of(0, c.tag, data)})
		}
		for _, data := range c.none {
			wantNoNormal(t, data, []api.Elem{of(0, c.tag, data)}, api.ErrForm, 0)
			wantNoNormal(t, data, []api.Elem{in(0, 17), {Depth: 1, Class: 2, Tag: c.tag, Cons: true}, of(2, c.tag, data)}, api.ErrForm, 2)
		}
	}
}

// All Ints and Oids of one and two bytes, held against the words once more.
func TestNormalShortForms(t *testing.T) {
	for i := range 256 {
		for j := range 256 {
			for _, x := range []*tree{{tag: api.TagInt}, {tag: api.TagEnum}, {tag: api.TagOid}, {tag: api.TagBits}, {tag: api.TagBool}} {
				x.data = []byte{byte(i), byte(j)}
				holdNormal(t, x.row(0))
				x.data = x.data[:1]
				holdNormal(t, x.row(0))
			}
		}
	}
}

func TestNormalBool(t *testing.T) {
	wantNormal(t, []api.Elem{of(0, 1, "00")}, []api.Elem{of(0, 1, "00")})
	for c := 1; c < 256; c++ {
		wantNormal(t, []api.Elem{{Tag: 1, Data: []byte{byte(c)}}}, []api.Elem{of(0, 1, "ff")})
		x := []api.Elem{{Class: 1, Tag: 1, Data: []byte{byte(c)}}}
		wantNormal(t, x, x)
	}
}

func TestNormalBits(t *testing.T) {
	for spare, last := range []string{"ff", "fe", "fc", "f8", "f0", "e0", "c0", "80"} {
		wantNormal(t, []api.Elem{{Tag: 3, Data: []byte{byte(spare), 255}}}, []api.Elem{{Tag: 3, Data: cat([]byte{byte(spare)}, hx(last))}})
		wantNormal(t, []api.Elem{{Tag: 3, Data: []byte{byte(spare), 255, 255}}}, []api.Elem{{Tag: 3, Data: cat([]byte{byte(spare), 255}, hx(last))}})
		x := []api.Elem{{Class: 2, Tag: 3, Data: []byte{byte(spare), 255}}}
		wantNormal(t, x, x)
	}
}

func TestNormalSegments(t *testing.T) {
	for _, tag := range stringTags {
		if tag == api.TagBits {
			continue
		}
		for _, c := range []struct {
			segments []api.Elem
			data     string
		}{
			{nil, ""},
			{[]api.Elem{of(1, 4, "")}, ""},
			{[]api.Elem{in(1, 4)}, ""},
			{[]api.Elem{in(1, 4), in(2, 4), in(1, 4)}, ""},
			{[]api.Elem{of(1, 4, "61"), of(1, 4, ""), of(1, 4, "6263")}, "616263"},
			{[]api.Elem{of(1, 4, "61"), in(1, 4), of(2, 4, "62"), in(2, 4), of(3, 4, "63"), of(3, 4, "64"), of(1, 4, "65")}, "6162636465"},
			{[]api.Elem{in(1, 4), in(2, 4), in(3, 4), of(4, 4, "00ff")}, "00ff"},
		} {
			l := append([]api.Elem{in(0, tag)}, c.segments...)
			wantNormal(t, l, []api.Elem{of(0, tag, c.data)})
		}
	}
}

func TestNormalBitSegments(t *testing.T) {
	for _, c := range []struct {
		segments []api.Elem
		data     string
	}{
		{nil, "00"},
		{[]api.Elem{in(1, 3)}, "00"},
		{[]api.Elem{in(1, 3), in(2, 3), in(1, 3)}, "00"},
		{[]api.Elem{of(1, 3, "00")}, "00"},
		{[]api.Elem{of(1, 3, "00"), of(1, 3, "00")}, "00"},
		{[]api.Elem{of(1, 3, "04ff")}, "04f0"},
		{[]api.Elem{of(1, 3, "0061"), of(1, 3, "04626f")}, "04616260"},
		{[]api.Elem{of(1, 3, "0061"), of(1, 3, "00"), of(1, 3, "07ff")}, "076180"},
		{[]api.Elem{of(1, 3, "00ff"), of(1, 3, "00")}, "00ff"},
		{[]api.Elem{in(1, 3), of(2, 3, "0061"), in(2, 3), of(3, 3, "0062"), of(1, 3, "01ff")}, "016162fe"},
		{[]api.Elem{of(1, 3, "0061"), in(1, 3), in(2, 3), of(3, 3, "01ff")}, "0161fe"},
		// Behind it stand Cons ones alone.
		{[]api.Elem{of(1, 3, "01ff"), in(1, 3)}, "01fe"},
		{[]api.Elem{in(1, 3), of(2, 3, "01ff"), in(2, 3), in(1, 3), in(2, 3)}, "01fe"},
	} {
		l := append([]api.Elem{in(0, 3)}, c.segments...)
		wantNormal(t, l, []api.Elem{of(0, 3, c.data)})
		for i := range l {
			l[i].Depth++
		}
		l = append([]api.Elem{in(0, 16)}, append(l, of(1, 3, "01fe"))...)
		wantNormal(t, l, []api.Elem{in(0, 16), of(1, 3, c.data), of(1, 3, "01fe")})
	}
}

// Only the last of a whole string's segments may have bits that do not count.
func TestNormalSpareBitsAhead(t *testing.T) {
	spare, last := of(1, 3, "01fe"), of(1, 3, "0061")
	deepSpare, deepLast := of(2, 3, "01fe"), of(2, 3, "0061")
	for _, c := range []struct {
		segments []api.Elem
		at       int
	}{
		{[]api.Elem{spare, last}, 1},
		{[]api.Elem{spare, of(1, 3, "00")}, 1},
		{[]api.Elem{spare, spare}, 1},
		{[]api.Elem{last, spare, last}, 2},
		{[]api.Elem{in(1, 3), deepSpare, last}, 2},
		{[]api.Elem{spare, in(1, 3), deepLast}, 1},
		{[]api.Elem{in(1, 3), deepSpare, in(1, 3), deepLast}, 2},
		{[]api.Elem{in(1, 3), deepSpare, deepLast}, 2},
		{[]api.Elem{spare, in(1, 3), last}, 1},
		{[]api.Elem{spare, in(1, 3), in(2, 3), of(3, 3, "00")}, 1},
		// The one behind is not as it must be, but comes later.
		{[]api.Elem{spare, of(1, 3, "")}, 1},
		{[]api.Elem{spare, of(1, 4, "61")}, 1},
		{[]api.Elem{spare, {Depth: 1, Class: 2, Tag: 3}}, 1},
	} {
		wantNoNormal(t, "spare bits ahead", append([]api.Elem{in(0, 3)}, c.segments...), api.ErrForm, c.at)
	}
	// Another string's segments play no part.
	wantNormal(t,
		[]api.Elem{in(0, 16), in(1, 3), deepSpare, in(1, 3), deepSpare, of(1, 3, "00")},
		[]api.Elem{in(0, 16), spare, spare, of(1, 3, "00")})
	// What is within no string is no segment: the fault is the one of what is about it.
	wantNoNormal(t, "no segment", []api.Elem{in(0, 3), spare, in(1, 16), of(2, 5, "")}, api.ErrTag, 2)
}

func TestNormalSegmentTags(t *testing.T) {
	for _, tag := range stringTags {
		right := api.TagOctets
		if tag == api.TagBits {
			right = api.TagBits
		}
		for _, other := range append(knownTags(), 7, 31) {
			if other == right {
				continue
			}
			for _, x := range []api.Elem{{Depth: 1, Tag: other, Data: formed(other)}, in(1, other)} {
				wantNoNormal(t, "segment", []api.Elem{in(0, tag), x}, api.ErrTag, 1)
				wantNoNormal(t, "segment", []api.Elem{in(0, tag), {Depth: 1, Tag: right, Data: formed(right)}, x}, api.ErrTag, 2)
				x.Depth = 2
				wantNoNormal(t, "segment of a segment", []api.Elem{in(0, tag), in(1, right), x}, api.ErrTag, 2)
			}
		}
		for class := 1; class < 4; class++ {
			wantNoNormal(t, "segment of another class", []api.Elem{in(0, tag), {Depth: 1, Class: class, Tag: right, Data: []byte{0}}}, api.ErrTag, 1)
			wantNoNormal(t, "segment of another class", []api.Elem{in(0, tag), {Depth: 1, Class: class, Tag: right, Cons: true}}, api.ErrTag, 1)
			// No string, no segments.
			l := []api.Elem{{Class: class, Tag: tag, Cons: true}, of(1, 2, "05"), {Depth: 1, Class: 2, Tag: 9}, of(1, 5, "")}
			wantNormal(t, l, l)
		}
	}
}

// Of an element the first error counts, of a tree the first element.
func TestNormalFirstError(t *testing.T) {
	wantNoNormal(t, "segment: tag ahead of Cons", []api.Elem{in(0, 4), in(1, 2)}, api.ErrTag, 1)
	wantNoNormal(t, "segment: tag ahead of form", []api.Elem{in(0, 4), of(1, 2, "0005")}, api.ErrTag, 1)
	wantNoNormal(t, "segment: Bits ahead of form", []api.Elem{in(0, 4), of(1, 3, "")}, api.ErrTag, 1)
	wantNoNormal(t, "Bits' segment's form", []api.Elem{in(0, 3), of(1, 3, "")}, api.ErrForm, 1)
	wantNoNormal(t, "Bits' segment's form", []api.Elem{in(0, 3), of(1, 3, "08ff"), of(1, 2, "05")}, api.ErrForm, 1)
	wantNoNormal(t, "Cons ahead of form", []api.Elem{of(0, 16, "0005")}, api.ErrCons, 0)
	wantNoNormal(t, "outer ahead of inner", []api.Elem{in(0, 2), of(1, 2, "0005")}, api.ErrCons, 0)
	wantNoNormal(t, "outer ahead of inner", []api.Elem{in(0, 7), of(1, 16, "")}, api.ErrTag, 0)
	wantNoNormal(t, "the first of three", []api.Elem{in(0, 17), of(1, 2, "0005"), of(1, 7, ""), in(1, 1)}, api.ErrForm, 1)
	wantNoNormal(t, "the first of three", []api.Elem{in(0, 17), of(1, 7, ""), in(1, 1), of(1, 2, "0005")}, api.ErrTag, 1)
	wantNoNormal(t, "the first of three", []api.Elem{in(0, 17), in(1, 1), of(1, 2, "0005"), of(1, 7, "")}, api.ErrCons, 1)
	// The number is the one of the row that was handed in: segments count, and no Set is in order yet.
	wantNoNormal(t, "numbers", []api.Elem{in(0, 17), in(1, 4), of(2, 4, "61"), of(2, 4, "62"), of(1, 2, "05"), of(1, 2, "")}, api.ErrForm, 5)
}

func TestNormalSets(t *testing.T) {
	for _, c := range [][2]*tree{
		{set(), set()},
		{set(leaf(2, "07"), leaf(2, "05")), set(leaf(2, "05"), leaf(2, "07"))},
		{set(leaf(4, "ff"), leaf(4, "7f"), leaf(4, "80")), set(leaf(4, "7f"), leaf(4, "80"), leaf(4, "ff"))},
		// A beginning of another: its length comes first, whatever follows.
		{set(leaf(4, "6162"), leaf(4, "61"), leaf(4, ""), leaf(4, "62")), set(leaf(4, ""), leaf(4, "61"), leaf(4, "62"), leaf(4, "6162"))},
		{set(seq(leaf(5, ""), leaf(5, "")), seq(leaf(5, "")), seq()), set(seq(), seq(leaf(5, "")), seq(leaf(5, ""), leaf(5, "")))},
		{set(seq(leaf(4, "6162"), leaf(5, "")), seq(leaf(4, "6162"), leaf(4, ""))), set(seq(leaf(4, "6162"), leaf(4, "")), seq(leaf(4, "6162"), leaf(5, "")))},
		// The byte of the head: class, Cons, tag.
		{set(&tree{class: 3}, &tree{class: 2}, &tree{class: 1}, leaf(30, ""), seq(), leaf(4, "")), set(leaf(4, ""), leaf(30, ""), seq(), &tree{class: 1}, &tree{class: 2}, &tree{class: 3})},
		{set(&tree{class: 2, tag: 3, cons: true}, &tree{class: 2, tag: 4}), set(&tree{class: 2, tag: 4}, &tree{class: 2, tag: 3, cons: true})},
		{set(&tree{class: 2, tag: 16384}, &tree{class: 2, tag: 128}, &tree{class: 2, tag: 256}, &tree{class: 2, tag: 127}, &tree{class: 2, tag: 30}),
			set(&tree{class: 2, tag: 30}, &tree{class: 2, tag: 127}, &tree{class: 2, tag: 128}, &tree{class: 2, tag: 16384}, &tree{class: 2, tag: 256})},
		// Elements that are alike all stay.
		{set(leaf(2, "05"), leaf(2, "04"), leaf(2, "05")), set(leaf(2, "04"), leaf(2, "05"), leaf(2, "05"))},
		// Only what is right within: a Seq keeps its order, in a Set too.
		{seq(leaf(2, "07"), leaf(2, "05")), seq(leaf(2, "07"), leaf(2, "05"))},
		{set(seq(leaf(2, "07"), leaf(2, "05")), leaf(2, "06")), set(leaf(2, "06"), seq(leaf(2, "07"), leaf(2, "05")))},
		{&tree{class: 2, tag: 17, cons: true, kids: []*tree{leaf(2, "07"), leaf(2, "05")}}, &tree{class: 2, tag: 17, cons: true, kids: []*tree{leaf(2, "07"), leaf(2, "05")}}},
		// A Set within a Set comes into order first.
		{set(set(leaf(2, "07"), leaf(2, "01")), set(leaf(2, "05"), leaf(2, "03"))), set(set(leaf(2, "01"), leaf(2, "07")), set(leaf(2, "03"), leaf(2, "05")))},
		{set(seq(set(leaf(2, "09"), leaf(2, "02"))), seq(set(leaf(2, "08"), leaf(2, "01")))), set(seq(set(leaf(2, "01"), leaf(2, "08"))), seq(set(leaf(2, "02"), leaf(2, "09"))))},
		// What counts are the bytes as they come to be: strings whole, Bools and Bits as they must be.
		{set(leaf(1, "02"), leaf(1, "ff"), leaf(1, "00")), set(leaf(1, "00"), leaf(1, "ff"), leaf(1, "ff"))},
		{set(leaf(3, "04f9"), leaf(3, "04f1"), leaf(3, "04e9")), set(leaf(3, "04e0"), leaf(3, "04f0"), leaf(3, "04f0"))},
		{set(seq(), &tree{tag: 4, cons: true, kids: []*tree{leaf(4, "62"), leaf(4, "")}}, leaf(4, "61")), set(leaf(4, "61"), leaf(4, "62"), seq())},
	} {
		wantNormal(t, c[0].row(0), c[1].row(0))
	}
}

// Elements of more than MaxTotal bytes: Normal knows no limit of bytes.
func TestNormalLong(t *testing.T) {
	a, b := fill(api.MaxTotal+1, 'a'), fill(api.MaxTotal+1, 'a')
	a[api.MaxTotal] = 'b'
	wantNormal(t, []api.Elem{in(0, 17), {Depth: 1, Tag: 4, Data: a}, {Depth: 1, Tag: 4, Data: b}, of(1, 4, "63")},
		[]api.Elem{in(0, 17), of(1, 4, "63"), {Depth: 1, Tag: 4, Data: b}, {Depth: 1, Tag: 4, Data: a}})
	wantNormal(t, []api.Elem{in(0, 12), {Depth: 1, Tag: 4, Data: a}, {Depth: 1, Tag: 4, Data: b}}, []api.Elem{{Tag: 12, Data: cat(a, b)}})
}

// As many as may be, as deep as may be: in one Set that is laid the wrong way
// round, and in Sets within Sets.
func TestNormalMost(t *testing.T) {
	l, m := []api.Elem{in(0, 17)}, []api.Elem{in(0, 17)}
	for i := range api.MaxElems - 1 {
		j := api.MaxElems - 2 - i
		l = append(l, api.Elem{Depth: 1, Tag: 4, Data: []byte{byte(j >> 8), byte(j)}})
		m = append(m, api.Elem{Depth: 1, Tag: 4, Data: []byte{byte(i >> 8), byte(i)}})
	}
	wantNormal(t, l, m)
	x := set()
	for range api.MaxDepth - 1 {
		x = set(x, leaf(2, "05"))
	}
	holdNormal(t, x.row(0))
}

func holdNormal(t *testing.T, l []api.Elem) {
	t.Helper()
	m, e, at := ber.Normal(l)
	asked, err, place := modelNormal(l)
	if e != err || at != place || !same(m, asked) {
		t.Errorf("Normal(%v): error %d at %d, %v; wanted error %d at %d, %v", l, e, at, m, err, place, asked)
	}
}

func TestNormalTreesByChance(t *testing.T) {
	r := rand.New(rand.NewSource(5))
	right := 0
	for range 20000 {
		l := anyTree(r, 0).row(0)
		holdNormal(t, l)
		holdNormal(t, goodTree(r, 0).row(0))
		if _, e, _ := ber.Normal(l); e == api.OK {
			right++
		}
		// One that is right but for one element.
		l = segmented(r, goodTree(r, 0)).row(0)
		i := r.Intn(len(l))
		switch r.Intn(3) {
		case 0:
			l[i].Tag = pick(r, append(knownTags(), 7)...)
		case 1:
			l[i].Class = r.Intn(4)
			if l[i].Tag == 0 {
				l[i].Class = 2 // there is no Universal one with tag 0
			}
		case 2:
			if !l[i].Cons {
				l[i].Data = cat(l[i].Data, []byte{byte(r.Intn(256))})
				l[i].Data[0] = pick[byte](r, 0, 1, 0x80, 0xff)
			}
		}
		holdNormal(t, l)
	}
	if right < 100 {
		t.Errorf("only %d trees were right", right)
	}
}
