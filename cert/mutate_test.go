package cert_test

import (
	"math/rand"
	"slices"
	"testing"

	"chirograph/api"
	"chirograph/cert"
	"chirograph/der"
)

// node is an element whose length is laid anew once something in it changes;
// one that is not Cons may have elements in it, too, as Octets do.
type node struct {
	head []byte
	kids []*node
	data []byte
}

// grown takes data apart as deep as may be.
func grown(x api.Tlv) *node {
	n := &node{head: x.Raw[:1], data: x.Data}
	if !x.Cons && !(x.Class == 0 && x.Tag == api.TagOctets) {
		return n
	}
	l, e, _ := der.Split(x.Data)
	if e != api.OK {
		return n
	}
	n.data = nil
	for _, y := range l {
		n.kids = append(n.kids, grown(y))
	}
	return n
}

func (n *node) laid() []byte {
	l := [][]byte{n.data}
	for _, k := range n.kids {
		l = append(l, k.laid())
	}
	b := el(0, l...)
	return append(slices.Clone(n.head), b[1:]...)
}

func (n *node) all() []*node {
	l := []*node{n}
	for _, k := range n.kids {
		l = append(l, k.all()...)
	}
	return l
}

func (n *node) copied() *node {
	m := &node{head: slices.Clone(n.head), data: slices.Clone(n.data)}
	for _, k := range n.kids {
		m.kids = append(m.kids, k.copied())
	}
	return m
}

// change does one thing to an element by chance: to its head, to its data, or
// to those that are in it.
func (n *node) change(r *rand.Rand) {
	switch what := r.Intn(10); {
	case what == 0:
		n.head = []byte{byte(r.Intn(8)<<5 | r.Intn(31))}
	case what == 1:
		n.head = []byte{n.head[0] ^ 1<<r.Intn(8)}
	case what == 2:
		n.head = []byte{pick[byte](r, 0x30, 0x31, 0x02, 0x03, 0x04, 0x06, 0x01, 0x17, 0x80, 0x81, 0x82, 0xa0, 0xa1, 0xa3, 0xa4, 0x87)}
	case len(n.kids) == 0:
		n.changeData(r)
	case what < 5:
		i := r.Intn(len(n.kids))
		n.kids = slices.Delete(n.kids, i, i+1)
	case what < 7:
		i, j := r.Intn(len(n.kids)), r.Intn(len(n.kids)+1)
		n.kids = slices.Insert(n.kids, j, n.kids[i].copied())
	case what < 9:
		i, j := r.Intn(len(n.kids)), r.Intn(len(n.kids))
		n.kids[i], n.kids[j] = n.kids[j], n.kids[i]
	default:
		x := pick(r, node{head: []byte{5}}, node{head: []byte{0x30}}, node{head: []byte{0x80}, data: []byte{1}}, node{head: []byte{1}, data: []byte{0xff}}, node{head: []byte{2}, data: []byte{3}})
		n.kids = slices.Insert(n.kids, r.Intn(len(n.kids)+1), &x)
	}
	if n.head[0]&0x1f == 0x1f || n.head[0] == 0 {
		n.head[0] = 0x30
	}
}

func (n *node) changeData(r *rand.Rand) {
	switch what := r.Intn(6); {
	case what == 0:
		n.data = nil
	case what == 1:
		n.data = append(n.data, byte(r.Intn(256)))
	case what == 2:
		n.data = pick(r, []byte{0}, []byte{1}, []byte{0xff}, []byte{3, 0xe8}, []byte{3, 0xe9}, []byte{0, 5}, []byte{0x55, 0x1d, 0x13}, []byte{0x2a, 1}, []byte{0x80})
	case len(n.data) == 0:
		n.data = []byte{byte(r.Intn(256))}
	case what == 3:
		n.data = n.data[1:]
	case what == 4:
		n.data = n.data[:len(n.data)-1]
	default:
		n.data[r.Intn(len(n.data))] ^= 1 << r.Intn(8)
	}
}

// seeds are certificates with all that there may be, and with little.
func seeds() []laid {
	var l [][]byte
	for n, value := range knownExts() {
		l = append(l, must(n, value))
	}
	slices.SortFunc(l, slices.Compare)
	names := seq(hx("82 01 61"), hx("81 01 62"), el(0xa4, hx(hexGermany)), hx("87 04 01 02 03 04"), hx("86 01 61"), hx("a0 02 05 00"))
	bounds := seq(el(0xa0, seq(hx("82 01 61")), seq(el(0xa4, hx(hexRoot)))), el(0xa1, seq(el(0x87, often(8, byte(1)))), seq(hx("81 01 63"))))
	return []laid{plain(), complete(), plain().with(version), plain().extended(l...), plain().extended(ext(17, names), must(30, bounds)), plain().extended(other(1), other(2, no), ext(19, seq(yes, small(1000)))),
		plain().extended(ext(36, seq(hx("80 01 00"), hx("81 01 01"))), ext(54, small(5)), ext(32, seq(seq(hx("06 01 2a"), seq(void)), seq(hx("06 01 2b"))))), plain().extended(ext(35, seq(hx("80 01 01"), hx("82 01 01"), hx("80 01 02"))), ext(14, hx("04 01 01")), ext(15, hx("03 02 07 80")), ext(37, seq(hx("06 01 2a"), hx("06 01 2b"))))}
}

func wantModel(t *testing.T, b []byte) api.Errno {
	t.Helper()
	c, e := cert.Parse(b)
	asked, fault := modelParse(b)
	if e != fault || !same(c, asked) {
		t.Errorf("Parse(%s): %s, error %d; wanted %s, error %d", short(b), shown(c), e, shown(asked), fault)
	}
	return e
}

// All that lacks little to be a certificate is told as the second writing of
// the chapter tells it.
func TestAgainstModel(t *testing.T) {
	r := rand.New(rand.NewSource(127))
	told := map[api.Errno]int{}
	for _, c := range seeds() {
		if e := wantModel(t, c.bytes()); e != api.OK {
			t.Fatalf("a seed: error %d", e)
		}
		x, _ := der.One(c.bytes())
		for range 5000 {
			n := grown(x).copied()
			for range 1 + r.Intn(2)*r.Intn(3) {
				all := n.all()
				all[r.Intn(len(all))].change(r)
			}
			told[wantModel(t, n.laid())]++
			if t.Failed() {
				return
			}
		}
	}
	for _, e := range []api.Errno{api.OK, api.ErrForm, api.ErrAlg, api.ErrKey, api.ErrVersion, api.ErrTwice} {
		if told[e] < 50 {
			t.Errorf("error %d was told %d times", e, told[e])
		}
	}
}

// Bits that are others, bytes that are cut out or put in, without another
// length about them.
func TestBytesAgainstModel(t *testing.T) {
	for _, c := range seeds() {
		b := c.bytes()
		for i := range b {
			for bit := range 8 {
				d := slices.Clone(b)
				d[i] ^= 1 << bit
				wantModel(t, d)
			}
			wantModel(t, slices.Delete(slices.Clone(b), i, i+1))
			wantModel(t, slices.Insert(slices.Clone(b), i, 0))
			wantModel(t, b[:i])
		}
	}
}
