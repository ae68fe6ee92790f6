package ber_test

import (
	"bytes"
	"math/big"
	"math/rand"
	"slices"

	"chirograph/api"
)

// What the document says, written once more in another way: elements within
// elements, by functions that call themselves.

type stop struct {
	e  api.Errno
	at int
}

type model struct {
	b []byte
	l []api.Elem
}

// modelParse tells what Parse should.
func modelParse(b []byte) (l []api.Elem, e api.Errno, at int) {
	defer func() {
		if s, ok := recover().(stop); ok {
			l, e, at = nil, s.e, s.at
		}
	}()
	if len(b) > api.MaxTotal {
		panic(stop{api.ErrLong, 0})
	}
	m := &model{b: b}
	if end := m.element(0, len(b), 0); end < len(b) {
		panic(stop{api.ErrTail, end})
	}
	return m.l, api.OK, len(b)
}

func (m *model) at(i, q int) byte {
	if i >= q {
		panic(stop{api.ErrShort, q})
	}
	return m.b[i]
}

// element reads the one at p and tells its end.
func (m *model) element(p, q, depth int) int {
	if len(m.l) == api.MaxElems {
		panic(stop{api.ErrMany, p})
	}
	if depth == api.MaxDepth {
		panic(stop{api.ErrDeep, p})
	}
	first := m.at(p, q)
	x := api.Elem{Depth: depth, Class: int(first / 64), Cons: first/32%2 == 1, Tag: int(first % 32)}
	if x.Class == 0 && x.Tag == 0 {
		panic(stop{api.ErrTag, p})
	}
	i := p + 1
	if x.Tag == 31 {
		x.Tag, i = m.tag(i, q)
	}
	n, from := m.at(i, q), i
	size, i := int64(n), i+1
	switch {
	case n == 255 || n == 128 && !x.Cons:
		panic(stop{api.ErrSize, from})
	case n == 128:
		m.l = append(m.l, x)
		for !(i+1 < q && m.b[i] == 0 && m.b[i+1] == 0) {
			i = m.element(i, q, depth+1)
		}
		return i + 2
	case n > 128:
		m.at(i+int(n)-129, q)
		v := new(big.Int).SetBytes(m.b[i : i+int(n)-128])
		if i += int(n) - 128; v.Cmp(big.NewInt(int64(q-i))) > 0 {
			panic(stop{api.ErrSize, from})
		}
		size = v.Int64()
	case int(n) > q-i:
		panic(stop{api.ErrSize, from})
	}
	end := i + int(size)
	if !x.Cons {
		x.Data = m.b[i:end]
		m.l = append(m.l, x)
		return end
	}
	m.l = append(m.l, x)
	for i < end {
		i = m.element(i, end, depth+1)
	}
	return end
}

func (m *model) tag(i, q int) (tag, next int) {
	if m.at(i, q) == 128 {
		panic(stop{api.ErrTag, i})
	}
	for ; ; i++ {
		c := m.at(i, q)
		tag = 128*tag + int(c%128)
		if tag > api.MaxTag || c < 128 && tag < 31 {
			panic(stop{api.ErrTag, i})
		}
		if c < 128 {
			return tag, i + 1
		}
	}
}

// tree is an element with those that it is made of.
type tree struct {
	class, tag int
	cons       bool
	data       []byte
	kids       []*tree
}

func leaf(tag int, data string) *tree {
	return &tree{tag: tag, data: hx(data)}
}

func seq(kids ...*tree) *tree {
	return &tree{tag: api.TagSeq, cons: true, kids: kids}
}

func set(kids ...*tree) *tree {
	return &tree{tag: api.TagSet, cons: true, kids: kids}
}

// grow makes a tree of a row; what is left of the row stands beside it.
func grow(l []api.Elem) (x *tree, rest []api.Elem) {
	x = &tree{class: l[0].Class, tag: l[0].Tag, cons: l[0].Cons, data: slices.Clone(l[0].Data)}
	for rest = l[1:]; len(rest) > 0 && rest[0].Depth > l[0].Depth; {
		var kid *tree
		kid, rest = grow(rest)
		x.kids = append(x.kids, kid)
	}
	return x, rest
}

// row is the tree's row.
func (x *tree) row(depth int) []api.Elem {
	l := []api.Elem{{Depth: depth, Class: x.class, Tag: x.tag, Cons: x.cons, Data: x.data}}
	for _, kid := range x.kids {
		l = append(l, kid.row(depth+1)...)
	}
	return l
}

// lay lays it in the shortest way, or, with an r, in one by chance.
func (x *tree) lay(r *rand.Rand) []byte {
	content := x.data
	for _, kid := range x.kids {
		content = cat(content, kid.lay(r))
	}
	first := byte(x.class * 64)
	if x.cons {
		first += 32
	}
	head := []byte{first + byte(min(x.tag, 31))}
	if x.tag >= 31 {
		digits := []byte{byte(x.tag % 128)}
		for n := x.tag / 128; n > 0; n /= 128 {
			digits = append([]byte{byte(n%128 + 128)}, digits...)
		}
		head = append(head, digits...)
	}
	n := big.NewInt(int64(len(content))).Bytes()
	if r != nil {
		switch k := r.Intn(4); {
		case k == 0 && x.cons:
			return cat(head, []byte{128}, content, []byte{0, 0})
		case k == 1:
			n = cat(make([]byte, r.Intn(126-len(n))+1), n)
			return cat(head, []byte{byte(128 + len(n))}, n, content)
		}
	}
	if len(content) < 128 {
		return cat(head, []byte{byte(len(content))}, content)
	}
	return cat(head, []byte{byte(128 + len(n))}, n, content)
}

var plainTags = []int{api.TagBool, api.TagInt, api.TagNull, api.TagOid, api.TagEnum}

var stringTags = []int{api.TagBits, api.TagOctets, api.TagUtf8, api.TagNumeric, api.TagPrintable, api.TagIa5, api.TagUtc, api.TagGeneral, api.TagVisible, api.TagBmp}

func knownTags() []int {
	return append(slices.Concat(plainTags, stringTags), api.TagSeq, api.TagSet)
}

func (x *tree) isString() bool {
	return x.class == 0 && slices.Contains(stringTags, x.tag)
}

// ends are the segments of a string that are not Cons.
func (x *tree) ends() (l []*tree) {
	for _, kid := range x.kids {
		if !kid.cons {
			l = append(l, kid)
		} else if kid.isString() {
			l = append(l, kid.ends()...)
		}
	}
	return l
}

// modelNormal tells what Normal should of a row that is a tree.
func modelNormal(l []api.Elem) (m []api.Elem, e api.Errno, at int) {
	defer func() {
		if s, ok := recover().(stop); ok {
			m, e, at = nil, s.e, s.at
		}
	}()
	x, _ := grow(l)
	x.check(new(int), nil, nil)
	x.settle()
	return x.row(0), api.OK, 0
}

// check gives up at the first element that is not as it must be; about is the
// Cons string right about it, ends has the segments of the outermost one that
// are not Cons.
func (x *tree) check(number *int, about *tree, ends []*tree) {
	at := *number
	*number++
	fail := func(e api.Errno) { panic(stop{e, at}) }
	if about != nil {
		want := api.TagOctets
		if about.tag == api.TagBits {
			want = api.TagBits
		}
		if x.class != 0 || x.tag != want {
			fail(api.ErrTag)
		}
	}
	if x.class == 0 {
		switch {
		case !slices.Contains(knownTags(), x.tag):
			fail(api.ErrTag)
		case (x.tag == api.TagSeq || x.tag == api.TagSet) && !x.cons:
			fail(api.ErrCons)
		case slices.Contains(plainTags, x.tag) && x.cons:
			fail(api.ErrCons)
		case !x.cons && x.formless():
			fail(api.ErrForm)
		case !x.cons && about != nil && x.tag == api.TagBits && x.data[0] != 0 && x != ends[len(ends)-1]:
			fail(api.ErrForm)
		}
	}
	var inner *tree
	if x.isString() && x.cons {
		inner = x
		if about == nil {
			ends = x.ends()
		}
	}
	for _, kid := range x.kids {
		kid.check(number, inner, ends)
	}
}

func (x *tree) formless() bool {
	d, n := x.data, len(x.data)
	switch x.tag {
	case api.TagBool:
		return n != 1
	case api.TagNull:
		return n != 0
	case api.TagInt, api.TagEnum:
		if n > 1 {
			nine := int(d[0])*2 + int(d[1])/128
			return nine == 0 || nine == 511
		}
		return n == 0
	case api.TagOid:
		for i := range d {
			if d[i] == 128 && (i == 0 || d[i-1] < 128) {
				return true
			}
		}
		return n == 0 || d[n-1] >= 128
	case api.TagBits:
		return n == 0 || d[0] > 7 || d[0] != 0 && n == 1
	}
	return false
}

func (x *tree) settle() {
	if x.isString() && x.cons {
		x.data = nil
		last := byte(0)
		for _, end := range x.ends() {
			if x.tag == api.TagBits {
				last = end.data[0]
				x.data = cat(x.data, end.data[1:])
			} else {
				x.data = cat(x.data, end.data)
			}
		}
		if x.tag == api.TagBits {
			x.data = cat([]byte{last}, x.data)
		}
		x.cons, x.kids = false, nil
	}
	for _, kid := range x.kids {
		kid.settle()
	}
	if x.class != 0 {
		return
	}
	switch {
	case x.tag == api.TagBool && x.data[0] != 0:
		x.data = []byte{255}
	case x.tag == api.TagBits && x.data[0] > 0:
		x.data = slices.Clone(x.data)
		x.data[len(x.data)-1] = x.data[len(x.data)-1] >> x.data[0] << x.data[0]
	case x.tag == api.TagSet:
		slices.SortStableFunc(x.kids, func(a, b *tree) int { return bytes.Compare(a.lay(nil), b.lay(nil)) })
	}
}

// anyTree is a tree by chance, not always one that Normal takes.
func anyTree(r *rand.Rand, depth int) *tree {
	x := &tree{tag: pick(r, knownTags()...)}
	switch r.Intn(8) {
	case 0:
		x.class, x.tag = 1+r.Intn(3), pick(r, 0, 1, 4, 16, 17, 30, 31, 127, 128, 16384, api.MaxTag)
	case 1:
		x.tag = 1 + r.Intn(40)
	}
	x.cons = depth < 5 && r.Intn(2+depth) < 2
	if x.cons {
		for range r.Intn(4) {
			x.kids = append(x.kids, anyTree(r, depth+1))
		}
	} else {
		x.data = make([]byte, pick(r, 0, 1, 1, 2, 3))
		for i := range x.data {
			x.data[i] = pick(r, 0, 1, 3, 7, 8, 0x7f, 0x80, 0xff, byte(r.Intn(256)))
		}
	}
	return x
}

// settled is the tree in the one way; x stays as it is.
func (x *tree) settled() *tree {
	y, _ := grow(x.row(0))
	y.settle()
	return y
}
