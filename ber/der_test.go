package ber_test

import (
	"bytes"
	"math/rand"
	"slices"
	"testing"

	"chirograph/api"
	"chirograph/ber"
)

// P3.6

func TestToDer(t *testing.T) {
	for _, c := range [][2]string{
		{"30 80 02 01 05 00 00", "30 03 02 01 05"},
		{"24 04 04 02 61 62", "04 02 61 62"},
		{"31 06 02 01 07 02 01 05", "31 06 02 01 05 02 01 07"},
		{"01 01 05", "01 01 ff"},
		{"05 00", "05 00"},
		{"05 81 00", "05 00"},
		{"05 84 00 00 00 00", "05 00"},
		{"24 80 00 00", "04 00"},
		{"23 80 00 00", "03 01 00"},
		{"03 02 04 ff", "03 02 04 f0"},
		{"23 09 03 02 00 61 03 03 04 62 6f", "03 04 04 61 62 60"},
		{"2c 80 04 01 61 24 80 04 01 62 00 00 00 00", "0c 02 61 62"},
		{"31 80 30 80 00 00 05 00 00 00", "31 04 05 00 30 00"},
		{"a0 80 24 80 04 01 61 00 00 00 00", "a0 03 04 01 61"},
		{"a4 80 02 01 05 00 00", "a4 03 02 01 05"},
	} {
		wantDer(t, hx(c[0]), hx(c[1]))
	}
}

func TestToDerFaults(t *testing.T) {
	for _, c := range []struct {
		b string
		e api.Errno
	}{
		{"", api.ErrShort}, {"04 01", api.ErrSize}, {"05 00 05", api.ErrTail}, {"1f 80 01 00", api.ErrTag}, {"00 00", api.ErrTag},
		{"02 02 00 05", api.ErrForm}, {"10 00", api.ErrCons}, {"24 03 0c 01 61", api.ErrTag}, {"22 00", api.ErrCons}, {"07 00", api.ErrTag},
		{"23 08 03 02 01 61 03 02 00 62", api.ErrForm}, {"30 80 02 00 00 00", api.ErrForm},
		// Parse's error comes ahead of Normal's, wherever it stands.
		{"30 05 02 00 05 00 05", api.ErrShort}, {"02 00 05", api.ErrTail}, {"10 00 00", api.ErrTail},
	} {
		wantNoDer(t, hx(c.b), c.e)
	}
	wantNoDer(t, nested(api.MaxDepth+1, true), api.ErrDeep)
	wantNoDer(t, wide(api.MaxElems+1, true), api.ErrMany)
	wantNoDer(t, make([]byte, api.MaxTotal+1), api.ErrLong)
}

func TestToDerMost(t *testing.T) {
	wantDer(t, nested(api.MaxDepth, true), nested(api.MaxDepth, false))
	wantDer(t, wide(api.MaxElems, true), wide(api.MaxElems, false))
	data := fill(api.MaxTotal-5, 'x')
	most := cat(hx("04 83 ff ff fb"), data)
	wantDer(t, most, most)
	// A length may take a byte more than two bytes 00 00 do: then the one way is too long.
	open := cat(hx("30 80 04 83 ff ff f7"), data[:api.MaxTotal-9], hx("00 00"))
	if len(open) != api.MaxTotal {
		t.Fatal(len(open))
	}
	wantNoDer(t, open, api.ErrLong)
	open = cat(hx("30 80 04 83 ff ff f6"), data[:api.MaxTotal-10], hx("00 00"))
	wantDer(t, open, cat(hx("30 83 ff ff fb 04 83 ff ff f6"), data[:api.MaxTotal-10]))
}

func TestIsDer(t *testing.T) {
	for _, b := range []string{"05 00", "01 01 00", "01 01 ff", "02 01 05", "30 00", "31 06 02 01 05 02 01 07", "03 01 00", "03 02 04 f0", "04 00", "80 00", "a0 02 05 00", "1e 00", "5f 1f 00"} {
		if !ber.IsDer(hx(b)) {
			t.Errorf("not IsDer(%s)", b)
		}
	}
	for _, b := range []string{"", "05", "05 81 00", "05 00 00", "01 01 01", "30 80 00 00", "31 06 02 01 07 02 01 05", "24 00", "03 02 04 f8", "02 02 00 05", "10 00", "07 00", "00 00"} {
		if ber.IsDer(hx(b)) {
			t.Errorf("IsDer(%s)", b)
		}
	}
	if ber.IsDer(nil) || ber.IsDer(make([]byte, api.MaxTotal+1)) {
		t.Error("IsDer of none, or of too many bytes")
	}
}

// goodTree is a tree by chance that Normal takes, its strings whole.
func goodTree(r *rand.Rand, depth int) *tree {
	if depth < 4 && r.Intn(2+depth) < 2 {
		x := pick(r, seq(), set(), set(), &tree{class: 1 + r.Intn(3), tag: pick(r, 0, 4, 17, 31, 128), cons: true})
		for range r.Intn(5) {
			x.kids = append(x.kids, goodTree(r, depth+1))
		}
		return x
	}
	some := make([]byte, pick(r, 0, 1, 1, 2, 2, 3, 5, 150))
	for i := range some {
		some[i] = pick(r, 0, 1, 0x60, 0x7f, 0xff, byte(r.Intn(256)))
	}
	switch tag := pick(r, knownTags()...); tag {
	case api.TagBool:
		return leaf(tag, pick(r, "00", "ff"))
	case api.TagInt, api.TagEnum:
		return leaf(tag, pick(r, "00", "05", "ff", "0080", "ff7f", "123456"))
	case api.TagNull:
		return leaf(tag, "")
	case api.TagOid:
		return leaf(tag, pick(r, "2a", "2a8648", "8837"))
	case api.TagBits:
		x := &tree{tag: tag, data: cat([]byte{byte(r.Intn(8))}, some)}
		if len(some) == 0 {
			x.data[0] = 0
		}
		x.settle()
		return x
	case api.TagSeq, api.TagSet:
		return &tree{class: 1 + r.Intn(3), tag: r.Intn(40), data: some}
	default:
		return &tree{tag: tag, data: some}
	}
}

// segmented is the same tree in another way: strings in segments, Sets in
// another order, Bools and Bits with what does not count.
func segmented(r *rand.Rand, x *tree) *tree {
	y := &tree{class: x.class, tag: x.tag, cons: x.cons, data: slices.Clone(x.data)}
	for _, kid := range x.kids {
		y.kids = append(y.kids, segmented(r, kid))
	}
	if y.class != 0 {
		return y
	}
	switch {
	case y.tag == api.TagSet:
		r.Shuffle(len(y.kids), func(i, j int) { y.kids[i], y.kids[j] = y.kids[j], y.kids[i] })
	case y.tag == api.TagBool && y.data[0] != 0:
		y.data[0] = byte(1 + r.Intn(255))
	case y.tag == api.TagBits:
		if y.data[0] > 0 {
			y.data[len(y.data)-1] |= byte(r.Intn(1 << y.data[0]))
		}
		if r.Intn(2) == 0 {
			y.cons, y.kids, y.data = true, segments(r, api.TagBits, y.data[0], y.data[1:], 0), nil
		}
	case y.isString() && r.Intn(2) == 0:
		y.cons, y.kids, y.data = true, segments(r, api.TagOctets, 0, y.data, 0), nil
	}
	return y
}

// segments cuts data into pieces, some of them made of pieces again.
func segments(r *rand.Rand, tag int, spare byte, data []byte, depth int) (l []*tree) {
	for len(data) > 0 || depth < 3 && r.Intn(3) == 0 {
		n := r.Intn(len(data) + 1)
		if depth > 2 {
			n = len(data)
		}
		piece := &tree{tag: tag, data: data[:n]}
		bits := spare
		if n < len(data) {
			bits = 0
		} else if n == 0 && spare > 0 {
			return append(l, &tree{tag: tag, cons: true}) // the one with spare bits is the last one already
		}
		if depth < 3 && r.Intn(3) == 0 {
			piece = &tree{tag: tag, cons: true, kids: segments(r, tag, bits, data[:n], depth+1)}
		} else if tag == api.TagBits {
			piece.data = cat([]byte{bits}, piece.data)
		}
		l, data = append(l, piece), data[n:]
	}
	return l
}

// P3.7, P3.8: in whatever way a tree is laid, it comes to the same bytes, and
// these to themselves.
func TestOneWay(t *testing.T) {
	r := rand.New(rand.NewSource(8))
	for range 4000 {
		x := goodTree(r, 0)
		m, e, _ := ber.Normal(x.row(0))
		if e != api.OK {
			t.Fatalf("Normal: error %d", e)
		}
		d, e := ber.Encode(m)
		if e != api.OK {
			t.Fatalf("Encode: error %d", e)
		}
		wantDer(t, d, d)
		wantNormal(t, m, m)
		for range 5 {
			y := segmented(r, x)
			wantDer(t, y.lay(r), d)
			wantDer(t, y.lay(nil), d)
			wantNormal(t, y.row(0), m)
		}
		if !bytes.Equal(d, x.settled().lay(nil)) {
			t.Errorf("%x; wanted %x", d, x.settled().lay(nil))
		}
	}
}

// P3.9: what is read is not read with a byte more, nor cut.
func TestNoByteMoreNorLess(t *testing.T) {
	r := rand.New(rand.NewSource(9))
	for range 300 {
		b := segmented(r, goodTree(r, 0)).lay(r)
		if l, e, _ := ber.Parse(b); e != api.OK || len(l) == 0 {
			t.Fatalf("Parse(%x): error %d", b, e)
		}
		for c := range 256 {
			wantNoParse(t, append(slices.Clone(b), byte(c)), api.ErrTail, len(b))
			wantNoDer(t, append(slices.Clone(b), byte(c)), api.ErrTail)
		}
		for i := range b {
			if l, e, _ := ber.Parse(b[:i]); e == api.OK || len(l) != 0 {
				t.Errorf("Parse of %x, cut at %d: error %d", b, i, e)
			}
		}
	}
}
