package der_test

import (
	"math/rand"
	"slices"
	"testing"

	"chirograph/api"
	"chirograph/ber"
	"chirograph/der"
)

// P4.7: elements that are laid in the one way are split, and what is split and
// put again is what it was.

// anyTree is a row of chapter 3 by chance: an element, and those within.
func anyTree(r *rand.Rand, depth int) []api.Elem {
	x := api.Elem{Depth: depth, Tag: pick(r, api.TagBool, api.TagInt, api.TagOctets, api.TagUtf8)}
	x.Data = make([]byte, pick(r, 1, 2, 127, 128, 300))
	r.Read(x.Data)
	if x.Tag == api.TagBool || x.Tag == api.TagInt {
		x.Data = x.Data[:1]
	}
	if r.Intn(4) == 0 {
		x.Class, x.Tag = 1+r.Intn(3), r.Intn(1<<r.Intn(29))
	}
	if depth == 6 || r.Intn(3+depth) > 2 {
		return []api.Elem{x}
	}
	x.Cons, x.Data = true, nil
	if x.Class == 0 {
		x.Tag = pick(r, api.TagSeq, api.TagSet)
	}
	l := []api.Elem{x}
	for range r.Intn(4) {
		l = append(l, anyTree(r, depth+1)...)
	}
	return l
}

// laidAgain splits a row, and each Cons element within, puts all again, and
// tells the elements as chapter 3 does beside.
func laidAgain(t *testing.T, b []byte, depth int) (again []byte, l []api.Elem) {
	t.Helper()
	row, e, at := der.Split(b)
	if e != api.OK || at != len(b) {
		t.Fatalf("Split(%s): error %d at %d", short(b), e, at)
	}
	for _, x := range row {
		y := api.Elem{Depth: depth, Class: x.Class, Tag: x.Tag, Cons: x.Cons, Data: x.Data}
		data, inner := x.Data, []api.Elem(nil)
		if x.Cons {
			y.Data = nil
			data, inner = laidAgain(t, x.Data, depth+1)
		}
		l = append(append(l, y), inner...)
		p, e := der.Put(x.Class, x.Tag, x.Cons, data)
		if e != api.OK || !slices.Equal(p, x.Raw) {
			t.Fatalf("Put of %s: %s, error %d", short(x.Raw), short(p), e)
		}
		again = append(again, p...)
	}
	return again, l
}

func TestOneWayIsSplit(t *testing.T) {
	r := rand.New(rand.NewSource(21))
	for range 5000 {
		l := anyTree(r, 0)
		laid, e := ber.Encode(l)
		if e != api.OK {
			t.Fatal(e)
		}
		b, e := ber.ToDer(laid)
		if e != api.OK {
			t.Fatalf("ToDer(%s): error %d", short(laid), e)
		}
		if x, e := der.One(b); e != api.OK || !slices.Equal(x.Raw, b) {
			t.Fatalf("One(%s): error %d", short(b), e)
		}
		again, row := laidAgain(t, b, 0)
		want, _, _ := ber.Parse(b)
		if !slices.Equal(again, b) || !slices.EqualFunc(row, want, sameElem) {
			t.Fatalf("%s: split and put again it is %s", short(b), short(again))
		}
	}
}

func sameElem(x, y api.Elem) bool {
	return x.Depth == y.Depth && x.Class == y.Class && x.Tag == y.Tag && x.Cons == y.Cons && slices.Equal(x.Data, y.Data)
}

// What is split and put again is what it was, of all rows of three bytes.
func TestSplitAndPutAgain(t *testing.T) {
	count := 0
	for i := range 1 << 24 {
		b := []byte{byte(i >> 16), byte(i >> 8), byte(i)}
		l, e, _ := der.Split(b)
		if e != api.OK {
			continue
		}
		count++
		var again []byte
		for _, x := range l {
			p, e := der.Put(x.Class, x.Tag, x.Cons, x.Data)
			if e != api.OK {
				t.Fatalf("%x: error %d", b, e)
			}
			again = append(again, p...)
		}
		if !slices.Equal(again, b) {
			t.Fatalf("%x: split and put again it is %x", b, again)
		}
	}
	if count == 0 {
		t.Error("no row was split")
	}
}

// P4.6: what is put is split, one in the other and one behind the other.
func TestPutIsSplit(t *testing.T) {
	oid, _ := der.PutOid("1.2.840.113549")
	a, _ := der.Put(api.Universal, api.TagOid, false, oid)
	b, _ := der.Put(api.Universal, api.TagInt, false, der.PutInt(-129))
	c, _ := der.Put(api.Universal, api.TagInt, false, der.PutUint([]uint32{0, 1}))
	d, _ := der.Put(api.Universal, api.TagSeq, true, a, b, c)
	x, e := der.One(d)
	if e != api.OK || !x.Cons || x.Tag != api.TagSeq {
		t.Fatalf("One(%x): error %d", d, e)
	}
	l, e, _ := der.Split(x.Data)
	if e != api.OK || len(l) != 3 || !slices.Equal(l[0].Raw, a) || !slices.Equal(l[1].Raw, b) || !slices.Equal(l[2].Raw, c) {
		t.Fatalf("Split(%x): error %d, %d elements", x.Data, e, len(l))
	}
	if s, e := der.Oid(l[0].Data); s != "1.2.840.113549" || e != api.OK {
		t.Errorf("Oid: %q, error %d", s, e)
	}
	wantInt(t, l[1].Data, -129, api.OK)
	wantUint(t, l[2].Data, []uint32{0, 1}, api.OK)
}
