package ecdsa

import (
	"chirograph/api"
	"chirograph/der"
)

// read tells the two numbers that sig is laid of.
func read(sig []byte) (r, s []uint32) {
	x, e := der.One(sig)
	demand(e == api.OK, e)
	demand(isKind(x, api.TagSeq, true), api.ErrTag)
	l, e, _ := der.Split(x.Data)
	demand(e == api.OK, e)
	demand(len(l) == 2 && isKind(l[0], api.TagInt, false) && isKind(l[1], api.TagInt, false), api.ErrTag)
	return readNumber(l[0].Data), readNumber(l[1].Data)
}

func readNumber(data []byte) []uint32 {
	n, e := der.Uint(data)
	demand(e == api.OK, e)
	return n
}

func isKind(x api.Tlv, tag int, cons bool) bool {
	return x.Class == api.Universal && x.Tag == tag && x.Cons == cons
}

// lay undoes read.
func lay(r, s []uint32) []byte {
	demand(len(r) <= api.MaxLimbs && len(s) <= api.MaxLimbs, api.ErrArg)
	return put(api.TagSeq, true, put(api.TagInt, false, der.PutUint(r)), put(api.TagInt, false, der.PutUint(s)))
}

// put lays an element of the universal class; none of those that are laid here
// is too long.
func put(tag int, cons bool, data ...[]byte) []byte {
	b, _ := der.Put(api.Universal, tag, cons, data...)
	return b
}
