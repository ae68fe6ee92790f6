package crl

import (
	"bytes"

	"chirograph/alg"
	"chirograph/api"
	"chirograph/der"
)

// extendedVersion is the only number that may be told as a version: it says that
// there may be extensions.
const extendedVersion = 1

// reader has what is read of a list, and what is to be judged once all of it is
// known to be laid as it must be.
type reader struct {
	crl       api.Crl
	way       api.Tlv
	versioned bool
	version   int
	extended  bool
	many      bool
	twice     bool
}

func read(b []byte) api.Crl {
	var l reader
	within(b, func(r *row) { l.crl.Raw = r.seq(l.list).Raw })
	l.judge()
	return l.crl
}

func (l *reader) list(r *row) {
	l.crl.Tbs = r.seq(l.body).Raw
	again := r.seq(whatever)
	demandForm(bytes.Equal(again.Raw, l.way.Raw))
	l.crl.Sig = r.wholeBytes()
}

func (l *reader) body(r *row) {
	if r.is(api.Universal, api.TagInt, false) {
		l.readVersion(r)
	}
	l.way = r.seq(whatever)
	l.crl.Issuer = r.name()
	l.crl.This = r.time()
	l.crl.Open = !r.isTime()
	if !l.crl.Open {
		l.crl.Next = r.time()
	}
	if r.isSeq() {
		r.seq(l.entries)
	}
	if r.is(api.Context, 0, true) {
		within(r.next().Data, func(in *row) { in.seq(l.ownExtensions) })
	}
}

// readVersion takes a number that is too great for an int for 0, which is no
// version either.
func (l *reader) readVersion(r *row) {
	l.versioned = true
	l.version, _ = der.Int(r.integer())
}

func (l *reader) entries(r *row) {
	for len(r.left) > 0 {
		r.seq(l.entry)
	}
}

func (l *reader) entry(r *row) {
	var g api.Gone
	g.Serial = r.integer()
	g.At = r.time()
	if r.isSeq() {
		r.seq(func(in *row) { g.Reason = l.entryExtensions(in) })
	}
	l.crl.Gone = append(l.crl.Gone, g)
}

// judge asks for what a list must be beyond its form, in the order in which it
// is told.
func (l *reader) judge() {
	demand(!l.many, api.ErrMany)
	if l.versioned {
		demand(l.version == extendedVersion, api.ErrVersion)
	} else {
		demand(!l.extended, api.ErrVersion)
	}
	way, e := alg.Sign(l.way)
	demand(e == api.OK, api.ErrAlg)
	l.crl.Way = way
	demand(!l.twice, api.ErrTwice)
}
