package rsa

import (
	"bytes"

	"chirograph/api"
	"chirograph/der"
)

// most is how many bytes a mask, or a digest filled up, has at the most.
const most = 4 * api.MaxLimbs

// Pad: a digest filled up.
func Pad(alg int, sum []byte, n int) ([]byte, api.Errno) {
	if !isDigest(alg, sum) || n > most {
		return nil, api.ErrArg
	}
	t := named(alg, sum)
	if n < len(t)+11 {
		return nil, api.ErrShort
	}
	b := bytes.Repeat([]byte{0xff}, n)
	end := b[n-len(t)-1:]
	b[0], b[1], end[0] = 0, 1, 0
	copy(end[1:], t)
	return b, api.OK
}

// named lays a digest with the identifier of its alg.
func named(alg int, sum []byte) []byte {
	o, _ := der.PutOid(oid(alg))
	which := put(api.TagSeq, put(api.TagOid, o), put(api.TagNull))
	return put(api.TagSeq, which, put(api.TagOctets, sum))
}

// put lays an element of the universal class; none of those that are laid here
// is too long, or has a tag that may not be.
func put(tag int, data ...[]byte) []byte {
	b, _ := der.Put(api.Universal, tag, tag == api.TagSeq, data...)
	return b
}

func oid(alg int) string {
	switch alg {
	case api.Sha1:
		return "1.3.14.3.2.26"
	case api.Sha256:
		return "2.16.840.1.101.3.4.2.1"
	case api.Sha384:
		return "2.16.840.1.101.3.4.2.2"
	case api.Sha512:
		return "2.16.840.1.101.3.4.2.3"
	}
	return ""
}
