package cert

import (
	"chirograph/api"
	"chirograph/clock"
	"chirograph/der"
	"chirograph/name"
)

// maxCount bounds the small numbers in extensions.
const maxCount = 1000

// row is what is left of a row of elements that is being read. Once it lacks
// what is asked of it, it is wrong for good, and nothing is left: so nobody who
// reads on needs to ask at each step.
type row struct {
	left  []api.Tlv
	wrong bool
}

func rowOf(data []byte) row {
	l, e, _ := der.Split(data)
	return row{l, e != api.OK}
}

// need makes the row wrong where something that must be is not so.
func (r *row) need(ok bool) {
	if !ok {
		r.left, r.wrong = nil, true
	}
}

// is asks for the head of the next element.
func (r *row) is(class, tag int, cons bool) bool {
	if len(r.left) == 0 {
		return false
	}
	x := r.left[0]
	return x.Class == class && x.Tag == tag && x.Cons == cons
}

func (r *row) next() api.Tlv {
	if len(r.left) == 0 {
		r.need(false)
		return api.Tlv{}
	}
	x := r.left[0]
	r.left = r.left[1:]
	return x
}

func (r *row) take(class, tag int, cons bool) api.Tlv {
	r.need(r.is(class, tag, cons))
	return r.next()
}

func (r *row) plain(tag int) []byte {
	return r.take(api.Universal, tag, false).Data
}

// whatever passes over all that is left.
func (r *row) whatever() {
	r.left = nil
}

// skip passes over an element [tag]- that may be there.
func (r *row) skip(tag int) {
	if r.is(api.Context, tag, false) {
		r.next()
	}
}

// integer has an Int's Data, however great it is.
func (r *row) integer() []byte {
	data := r.plain(api.TagInt)
	_, e := der.Int(data)
	r.need(e != api.ErrForm)
	return data
}

// count has the small number whose Data these are.
func (r *row) count(data []byte) int {
	n, e := der.Int(data)
	r.need(e == api.OK && n >= 0 && n <= maxCount)
	return n
}

// truth is false where there is no Bool.
func (r *row) truth() bool {
	if !r.is(api.Universal, api.TagBool, false) {
		return false
	}
	yes, e := der.Bool(r.next().Data)
	r.need(e == api.OK)
	return yes
}

func (r *row) oid() string {
	oid, e := der.Oid(r.plain(api.TagOid))
	r.need(e == api.OK)
	return oid
}

// wholeBytes has what bits are that spare none.
func (r *row) wholeBytes() []byte {
	b, spare, e := der.Bits(r.plain(api.TagBits))
	r.need(e == api.OK && spare == 0)
	return b
}

func (r *row) flags() int {
	n, e := der.Flags(r.plain(api.TagBits))
	r.need(e == api.OK)
	return int(n)
}

func (r *row) name() [][]api.Atv {
	n, e := name.Parse(r.next().Raw)
	r.need(e == api.OK)
	return n
}

func (r *row) time() int {
	sec, e := clock.Time(r.next())
	r.need(e == api.OK)
	return sec
}

func (r *row) general(base bool) api.Gen {
	g, e := General(r.next(), base)
	r.need(e == api.OK)
	return g
}
