package crl_test

import (
	"math/rand"
	"slices"
	"testing"

	"chirograph/api"
	"chirograph/crl"
	"chirograph/der"
)

// node is an element whose length is laid anew once something in it changes;
// one that is not Cons may have elements in it, too, as Octets do.
type node struct {
	head []byte
	kids []*node
	data []byte
}

// grown takes data apart as deep as may be.
func grown(x api.Tlv) *node {
	n := &node{head: x.Raw[:1], data: x.Data}
	if !x.Cons && !(x.Class == 0 && x.Tag == api.TagOctets) {
		return n
	}
	l, e, _ := der.Split(x.Data)
	if e != api.OK {
		return n
	}
	n.data = nil
	for _, y := range l {
		n.kids = append(n.kids, grown(y))
	}
	return n
}

func (n *node) laid() []byte {
	l := [][]byte{n.data}
	for _, k := range n.kids {
		l = append(l, k.laid())
	}
	b := el(0, l...)
	return append(slices.Clone(n.head), b[1:]...)
}

func (n *node) all() []*node {
	l := []*node{n}
	for _, k := range n.kids {
		l = append(l, k.all()...)
	}
	return l
}

func (n *node) copied() *node {
	m := &node{head: slices.Clone(n.head), data: slices.Clone(n.data)}
	for _, k := range n.kids {
		m.kids = append(m.kids, k.copied())
	}
	return m
}

// change does one thing to an element by chance: to its head, to its data, or
// to those that are in it.
func (n *node) change(r *rand.Rand) {
	switch what := r.Intn(10); {
	case what == 0:
		n.head = []byte{byte(r.Intn(8)<<5 | r.Intn(31))}
	case what == 1:
		n.head = []byte{n.head[0] ^ 1<<r.Intn(8)}
	case what == 2:
		n.head = []byte{pick[byte](r, 0x30, 0x31, 0x02, 0x03, 0x04, 0x06, 0x01, 0x0a, 0x17, 0x18, 0x80, 0x81, 0xa0, 0xa1)}
	case len(n.kids) == 0:
		n.changeData(r)
	case what < 5:
		i := r.Intn(len(n.kids))
		n.kids = slices.Delete(n.kids, i, i+1)
	case what < 7:
		i, j := r.Intn(len(n.kids)), r.Intn(len(n.kids)+1)
		n.kids = slices.Insert(n.kids, j, n.kids[i].copied())
	case what < 9:
		i, j := r.Intn(len(n.kids)), r.Intn(len(n.kids))
		n.kids[i], n.kids[j] = n.kids[j], n.kids[i]
	default:
		x := pick(r, node{head: []byte{5}}, node{head: []byte{0x30}}, node{head: []byte{0x80}, data: []byte{1}}, node{head: []byte{1}, data: []byte{0xff}}, node{head: []byte{2}, data: []byte{3}})
		n.kids = slices.Insert(n.kids, r.Intn(len(n.kids)+1), &x)
	}
	if n.head[0]&0x1f == 0x1f || n.head[0] == 0 {
		n.head[0] = 0x30
	}
}

func (n *node) changeData(r *rand.Rand) {
	switch what := r.Intn(6); {
	case what == 0:
		n.data = nil
	case what == 1:
		n.data = append(n.data, byte(r.Intn(256)))
	case what == 2:
		n.data = pick(r, []byte{0}, []byte{1}, []byte{7}, []byte{10}, []byte{11}, []byte{0xff}, []byte{0, 5}, []byte{0x55, 0x1d, 20}, []byte{0x55, 0x1d, 21}, []byte{0x55, 0x1d, 35}, []byte{0x2a, 1}, []byte{0x80})
	case len(n.data) == 0:
		n.data = []byte{byte(r.Intn(256))}
	case what == 3:
		n.data = n.data[1:]
	case what == 4:
		n.data = n.data[:len(n.data)-1]
	default:
		n.data[r.Intn(len(n.data))] ^= 1 << r.Intn(8)
	}
}

// seeds are lists with all that there may be, and with little.
func seeds() []laid {
	all := plain().listing(entry([]byte{1}, must(21, reason(4))), entry([]byte{0, 0xff}), entry([]byte{2}, other(1, no), ext(21, reason(10)), ext(35, seq(hx("80 01 09")))), seq(small(3), general("20240229120000Z")))
	all = all.extended(must(35, seq(hx("80 02 07 08"), hx("82 01 05"))), ext(20, small(300)), other(2), ext(21, reason(1)))
	few := plain().with(version).with(next)
	return []laid{plain(), complete(), all, few, all.with(next), few.listing(entry([]byte{4}), entry([]byte{5})), plain().listing().with(version), plain().extended(other(1, yes)), plain().listing(entry([]byte{7}, other(1, yes), ext(20, small(1)))), plain().extended(ext(35, seq(hx("80 01 01"), hx("80 01 02"))))}
}

func wantModel(t *testing.T, b []byte) api.Errno {
	t.Helper()
	c, e := crl.Parse(b)
	asked, fault := modelParse(b)
	if e != fault || !same(c, asked) {
		t.Errorf("Parse(%s): %s, error %d; wanted %s, error %d", short(b), shown(c), e, shown(asked), fault)
	}
	return e
}

// All that lacks little to be a list is told as the second writing of
// the chapter tells it.
func TestAgainstModel(t *testing.T) {
	r := rand.New(rand.NewSource(134))
	told := map[api.Errno]int{}
	for _, c := range seeds() {
		if e := wantModel(t, c.bytes()); e != api.OK {
			t.Fatalf("a seed: error %d", e)
		}
		for range 5000 {
			d := c
			if r.Intn(8) == 0 { // else both would hardly ever be alike, and another one
				d = c.signing(pick(r, hx(hexEcSha256), hx(hexRsa), seq(), seq(void), hx("30 01 05")))
			}
			x, _ := der.One(d.bytes())
			n := grown(x).copied()
			for range 1 + r.Intn(2)*r.Intn(3) {
				all := n.all()
				all[r.Intn(len(all))].change(r)
			}
			told[wantModel(t, n.laid())]++
			if t.Failed() {
				return
			}
		}
	}
	for _, e := range []api.Errno{api.OK, api.ErrForm, api.ErrAlg, api.ErrVersion, api.ErrTwice} {
		if told[e] < 50 {
			t.Errorf("error %d was told %d times", e, told[e])
		}
	}
}

// Bits that are others, bytes that are cut out or put in, without another
// length about them.
func TestBytesAgainstModel(t *testing.T) {
	for _, c := range seeds() {
		b := c.bytes()
		for i := range b {
			for bit := range 8 {
				d := slices.Clone(b)
				d[i] ^= 1 << bit
				wantModel(t, d)
			}
			wantModel(t, slices.Delete(slices.Clone(b), i, i+1))
			wantModel(t, slices.Insert(slices.Clone(b), i, 0))
			wantModel(t, b[:i])
		}
	}
}
