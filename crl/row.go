package crl

import (
	"chirograph/api"
	"chirograph/clock"
	"chirograph/der"
	"chirograph/name"
)

// row is what is left of a row of elements that is being read. It gives up once
// it lacks what is asked of it: so nobody who reads on needs to ask.
type row struct {
	left []api.Tlv
}

// within reads what data are laid of, all of which must be read.
func within(data []byte, read func(r *row)) {
	l, e, _ := der.Split(data)
	demandForm(e == api.OK)
	r := row{l}
	read(&r)
	demandForm(len(r.left) == 0)
}

// is asks for the head of the next element.
func (r *row) is(class, tag int, cons bool) bool {
	if len(r.left) == 0 {
		return false
	}
	x := r.left[0]
	return x.Class == class && x.Tag == tag && x.Cons == cons
}

func (r *row) isSeq() bool {
	return r.is(api.Universal, api.TagSeq, true)
}

func (r *row) isTime() bool {
	return r.is(api.Universal, api.TagUtc, false) || r.is(api.Universal, api.TagGeneral, false)
}

func (r *row) next() api.Tlv {
	demandForm(len(r.left) > 0)
	x := r.left[0]
	r.left = r.left[1:]
	return x
}

func (r *row) plain(tag int) []byte {
	demandForm(r.is(api.Universal, tag, false))
	return r.next().Data
}

// seq reads a Seq, and has no way to leave its Data unsplit: without a row in it
// there is no Seq, even where nobody asks which elements these are.
func (r *row) seq(read func(r *row)) api.Tlv {
	demandForm(r.isSeq())
	x := r.next()
	within(x.Data, read)
	return x
}

// whatever passes over all that is left.
func whatever(r *row) {
	r.left = nil
}

// integer has an Int's Data, however great it is.
func (r *row) integer() []byte {
	data := r.plain(api.TagInt)
	_, e := der.Int(data)
	demandForm(e != api.ErrForm)
	return data
}

// truth is false where there is no Bool.
func (r *row) truth() bool {
	if !r.is(api.Universal, api.TagBool, false) {
		return false
	}
	yes, e := der.Bool(r.next().Data)
	demandForm(e == api.OK)
	return yes
}

func (r *row) oid() string {
	oid, e := der.Oid(r.plain(api.TagOid))
	demandForm(e == api.OK)
	return oid
}

// wholeBytes has what bits are that spare none.
func (r *row) wholeBytes() []byte {
	b, spare, e := der.Bits(r.plain(api.TagBits))
	demandForm(e == api.OK && spare == 0)
	return b
}

func (r *row) name() [][]api.Atv {
	n, e := name.Parse(r.next().Raw)
	demandForm(e == api.OK)
	return n
}

func (r *row) time() int {
	sec, e := clock.Time(r.next())
	demandForm(e == api.OK)
	return sec
}
