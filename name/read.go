package name

import (
	"chirograph/api"
	"chirograph/der"
)

// row has what a Cons element with that tag is made of.
func row(x api.Tlv, tag int) ([]api.Tlv, api.Errno) {
	if x.Class != api.Universal || x.Tag != tag || !x.Cons {
		return nil, api.ErrTag
	}
	l, e, _ := der.Split(x.Data)
	return l, e
}

func readName(x api.Tlv) ([][]api.Atv, api.Errno) {
	l, e := row(x, api.TagSeq)
	switch {
	case e != api.OK:
		return nil, e
	case len(l) > api.MaxRdns:
		return nil, api.ErrMany
	}
	n := make([][]api.Atv, len(l))
	for i, y := range l {
		if n[i], e = readSet(y); e != api.OK {
			return nil, e
		}
	}
	return n, api.OK
}

func readSet(x api.Tlv) ([]api.Atv, api.Errno) {
	l, e := row(x, api.TagSet)
	switch {
	case e != api.OK:
		return nil, e
	case len(l) == 0:
		return nil, api.ErrNone
	case len(l) > api.MaxRdns:
		return nil, api.ErrMany
	}
	set := make([]api.Atv, len(l))
	for i, y := range l {
		if set[i], e = readPart(y); e != api.OK {
			return nil, e
		}
	}
	return set, api.OK
}

func readPart(x api.Tlv) (api.Atv, api.Errno) {
	l, e := row(x, api.TagSeq)
	if e != api.OK {
		return api.Atv{}, e
	}
	if len(l) != 2 || !isPlain(l[0]) || l[0].Tag != api.TagOid || !isPlain(l[1]) {
		return api.Atv{}, api.ErrTag
	}
	kind, e := der.Oid(l[0].Data)
	if e != api.OK {
		return api.Atv{}, e
	}
	return api.Atv{Type: kind, Tag: l[1].Tag, Data: l[1].Data}, api.OK
}

func isPlain(x api.Tlv) bool {
	return x.Class == api.Universal && !x.Cons
}
