package alg

import (
	"chirograph/api"
	"chirograph/der"
)

// The digests' object identifiers.
const (
	oidSha1   = "1.3.14.3.2.26"
	oidSha256 = "2.16.840.1.101.3.4.2.1"
	oidSha384 = "2.16.840.1.101.3.4.2.2"
	oidSha512 = "2.16.840.1.101.3.4.2.3"
)

// identifier is what names an algorithm. Its rest has at most one element.
type identifier struct {
	oid  string
	rest []api.Tlv
}

func (id identifier) isAlone() bool {
	return len(id.rest) == 0
}

func (id identifier) isVoid() bool {
	return len(id.rest) == 1 && isPlain(id.rest[0], api.TagNull) && len(id.rest[0].Data) == 0
}

func readIdentifier(x api.Tlv) (identifier, error) {
	l, ok := row(x)
	if !ok || len(l) < 1 || len(l) > 2 {
		return identifier{}, none("no Oid with a rest")
	}
	oid, ok := readOid(l[0])
	if !ok {
		return identifier{}, none("no Oid")
	}
	return identifier{oid, l[1:]}, nil
}

func readDigest(x api.Tlv) (int, error) {
	id, err := readIdentifier(x)
	if err != nil {
		return 0, err
	}
	if !id.isAlone() && !id.isVoid() {
		return 0, none("a rest of " + id.oid)
	}
	switch id.oid {
	case oidSha1:
		return api.Sha1, nil
	case oidSha256:
		return api.Sha256, nil
	case oidSha384:
		return api.Sha384, nil
	case oidSha512:
		return api.Sha512, nil
	}
	return 0, none(id.oid)
}

// row has what a Cons element with TagSeq is made of.
func row(x api.Tlv) ([]api.Tlv, bool) {
	if x.Class != api.Universal || x.Tag != api.TagSeq || !x.Cons {
		return nil, false
	}
	l, e, _ := der.Split(x.Data)
	return l, e == api.OK
}

func isPlain(x api.Tlv, tag int) bool {
	return x.Class == api.Universal && x.Tag == tag && !x.Cons
}

func readOid(x api.Tlv) (string, bool) {
	if !isPlain(x, api.TagOid) {
		return "", false
	}
	oid, e := der.Oid(x.Data)
	return oid, e == api.OK
}
