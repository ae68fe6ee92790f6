package cert

import (
	"bytes"

	"chirograph/alg"
	"chirograph/api"
	"chirograph/der"
)

const (
	unsaid      = -1 // a number that nothing says
	lastVersion = 2  // the one with extensions
)

// reader reads a certificate. The row in it is the innermost one that is being
// read, and its calls are the reader's.
type reader struct {
	row
	cert     api.Cert
	version  int
	way      api.Tlv
	key      api.Tlv
	kinds    map[string]int
	seen     map[string]int
	extended bool
	many     bool
	twice    bool
}

func newReader(b []byte) reader {
	return reader{
		row:   rowOf(b),
		cert:  api.Cert{Below: unsaid, Usage: unsaid, Require: unsaid, Inhibit: unsaid},
		kinds: kinds(),
		seen:  map[string]int{},
	}
}

// within reads what data are laid of: as long as read goes on, that is the row,
// and all of it must be read.
func (r *reader) within(data []byte, read func()) {
	outer := r.row
	r.row = rowOf(data)
	read()
	inner := r.row
	r.row = outer
	r.need(!inner.wrong && len(inner.left) == 0)
}

// seq reads a Seq, and has no way to leave its Data unsplit: without a row in it
// there is no Seq, even where nobody asks which elements these are.
func (r *reader) seq(read func()) api.Tlv {
	x := r.take(api.Universal, api.TagSeq, true)
	r.within(x.Data, read)
	return x
}

// each reads, one by one, as many as may stand where the document says "of".
func (r *reader) each(read func()) func() {
	return func() {
		r.need(len(r.left) >= 1 && len(r.left) <= api.MaxNames)
		for len(r.left) > 0 {
			read()
		}
	}
}

func (r *reader) certificate() {
	r.cert.Raw = r.seq(func() {
		r.cert.Tbs = r.seq(r.body).Raw
		r.need(bytes.Equal(r.seq(r.whatever).Raw, r.way.Raw))
		r.cert.Sig = r.wholeBytes()
	}).Raw
}

func (r *reader) body() {
	if r.is(api.Context, 0, true) {
		r.within(r.next().Data, r.readVersion)
	}
	r.cert.Serial = r.integer()
	r.way = r.seq(r.whatever)
	r.cert.Issuer = r.name()
	r.seq(r.times)
	r.cert.Subject = r.name()
	r.key = r.seq(r.whatever)
	r.skip(1)
	r.skip(2)
	if r.is(api.Context, 3, true) {
		r.within(r.next().Data, func() { r.seq(r.extensions) })
	}
}

// readVersion takes a number that is too great for an int for one that is no
// version either.
func (r *reader) readVersion() {
	n, e := der.Int(r.integer())
	if e != api.OK {
		n = unsaid
	}
	r.version = n
}

func (r *reader) times() {
	r.cert.From = r.time()
	r.cert.Until = r.time()
}

// judge asks for what a certificate must be beyond its form, in the order in
// which it is told.
func (r *reader) judge() api.Errno {
	switch {
	case r.wrong, len(r.left) > 0:
		return api.ErrForm
	case r.many:
		return api.ErrMany
	case r.version < 0, r.version > lastVersion, r.extended && r.version != lastVersion:
		return api.ErrVersion
	}
	var e api.Errno
	if r.cert.Way, e = alg.Sign(r.way); e != api.OK {
		return e
	}
	if r.cert.Key, e = alg.Key(r.key); e != api.OK {
		return e
	}
	if r.twice {
		return api.ErrTwice
	}
	return api.OK
}
