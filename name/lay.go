package name

import (
	"bytes"
	"slices"

	"chirograph/api"
	"chirograph/der"
)

func layName(n [][]api.Atv) ([]byte, error) {
	if err := count(n); err != nil {
		return nil, err
	}
	sets := make([][]byte, len(n))
	for i, set := range n {
		b, err := laySet(set)
		if err != nil {
			return nil, place{"set", i, err}
		}
		sets[i] = b
	}
	return put(api.TagSeq, true, sets...)
}

// count stands ahead of all else that may be wrong, so it goes through all
// sets before the first of them is laid.
func count(n [][]api.Atv) error {
	if len(n) > api.MaxRdns {
		return errMany
	}
	for i, set := range n {
		if len(set) > api.MaxRdns {
			return place{"set", i, errMany}
		}
	}
	return nil
}

func laySet(set []api.Atv) ([]byte, error) {
	if len(set) == 0 {
		return nil, errNone
	}
	parts := make([][]byte, len(set))
	for i, x := range set {
		b, err := layPart(x)
		if err != nil {
			return nil, place{"part", i, err}
		}
		parts[i] = b
	}
	slices.SortFunc(parts, bytes.Compare)
	return put(api.TagSet, true, parts...)
}

func layPart(x api.Atv) ([]byte, error) {
	o, err := layType(x.Type)
	if err != nil {
		return nil, err
	}
	// Asked ahead of any length: a Type may be too long for an element too.
	if x.Tag < 1 || x.Tag > api.MaxTag {
		return nil, errArg
	}
	kind, err := put(api.TagOid, false, o)
	if err != nil {
		return nil, err
	}
	value, err := put(x.Tag, false, x.Data)
	if err != nil {
		return nil, err
	}
	return put(api.TagSeq, true, kind, value)
}

func layType(s string) ([]byte, error) {
	o, e := der.PutOid(s)
	switch e {
	case api.OK:
		return o, nil
	case api.ErrLong:
		return nil, errLong
	}
	return nil, errForm
}

// put lays an element whose head is known to be right.
func put(tag int, cons bool, data ...[]byte) ([]byte, error) {
	b, e := der.Put(api.Universal, tag, cons, data...)
	if e != api.OK {
		return nil, errLong
	}
	return b, nil
}
