package crl

import (
	"slices"

	"chirograph/api"
	"chirograph/der"
)

// The extensions that are read: of a list its number and its issuer's key, of an
// entry the reason.
const (
	oidNumber    = "2.5.29.20"
	oidReason    = "2.5.29.21"
	oidIssuerKey = "2.5.29.35"
)

// Reasons go up to lastReason; one between is nobody's.
const (
	lastReason   = 10
	unusedReason = 7
)

// extensions reads those of one place: known is handed each one's Oid and what
// its Octets have, and tells whether it is one of those that this place knows.
// It looks into none of them where there are too many.
func (l *reader) extensions(r *row, known func(oid string, data []byte) bool) {
	demandForm(len(r.left) > 0)
	l.extended = true
	if len(r.left) > api.MaxExts {
		l.many = true
		whatever(r)
	}
	var seen []string
	for len(r.left) > 0 {
		r.seq(func(in *row) {
			oid := in.oid()
			must := in.truth()
			if !known(oid, in.plain(api.TagOctets)) && must {
				l.crl.Unknown = true
			}
			l.twice = l.twice || slices.Contains(seen, oid)
			seen = append(seen, oid)
		})
	}
}

func (l *reader) ownExtensions(r *row) {
	l.extensions(r, func(oid string, data []byte) bool {
		switch oid {
		case oidIssuerKey:
			within(data, func(in *row) { in.seq(l.issuerKey) })
		case oidNumber:
			within(data, func(in *row) { in.integer() })
		default:
			return false
		}
		return true
	})
}

// entryExtensions has the reason that they tell.
func (l *reader) entryExtensions(r *row) int {
	reason := 0
	l.extensions(r, func(oid string, data []byte) bool {
		if oid != oidReason {
			return false
		}
		within(data, func(in *row) { reason = in.reason() })
		return true
	})
	return reason
}

// issuerKey has the first [0]- counted, even if nothing is in it.
func (l *reader) issuerKey(r *row) {
	found := false
	for len(r.left) > 0 {
		isKey := r.is(api.Context, 0, false)
		x := r.next()
		if isKey && !found {
			l.crl.Aki = x.Data
			found = true
		}
	}
}

func (r *row) reason() int {
	n, e := der.Int(r.plain(api.TagEnum))
	demandForm(e == api.OK && n >= 0 && n <= lastReason && n != unusedReason)
	return n
}
