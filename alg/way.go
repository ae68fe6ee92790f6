package alg

import (
	"chirograph/api"
	"chirograph/der"
)

// The object identifiers of ways to sign; that of a mask is among a way's rest.
const (
	oidRsa         = "1.2.840.113549.1.1.1"
	oidRsaSha1     = "1.2.840.113549.1.1.5"
	oidMask        = "1.2.840.113549.1.1.8"
	oidPss         = "1.2.840.113549.1.1.10"
	oidRsaSha256   = "1.2.840.113549.1.1.11"
	oidRsaSha384   = "1.2.840.113549.1.1.12"
	oidRsaSha512   = "1.2.840.113549.1.1.13"
	oidEcdsaSha1   = "1.2.840.10045.4.1"
	oidEcdsaSha256 = "1.2.840.10045.4.3.2"
	oidEcdsaSha384 = "1.2.840.10045.4.3.3"
	oidEcdsaSha512 = "1.2.840.10045.4.3.4"
)

const maxSalt = 1000

// readWay lets what is said of a rest depend on the kind: a void one is as good
// as none only in the first.
func readWay(x api.Tlv) (api.Alg, error) {
	id, err := readIdentifier(x)
	if err != nil {
		return api.Alg{}, err
	}
	a := named(id.oid)
	switch a.Kind {
	case api.AlgPss:
		return readPss(a, id.rest)
	case api.AlgRsa:
		if id.isVoid() {
			return a, nil
		}
		fallthrough
	case api.AlgEcdsa:
		if id.isAlone() {
			return a, nil
		}
	}
	return api.Alg{}, none(id.oid + ", or its rest")
}

// named is the way to sign that an Oid names: of AlgPss, as it is where its
// rest says nothing. One that it does not name has no Kind.
func named(oid string) api.Alg {
	switch oid {
	case oidRsa:
		return api.Alg{Kind: api.AlgRsa}
	case oidRsaSha1:
		return api.Alg{Kind: api.AlgRsa, Digest: api.Sha1}
	case oidRsaSha256:
		return api.Alg{Kind: api.AlgRsa, Digest: api.Sha256}
	case oidRsaSha384:
		return api.Alg{Kind: api.AlgRsa, Digest: api.Sha384}
	case oidRsaSha512:
		return api.Alg{Kind: api.AlgRsa, Digest: api.Sha512}
	case oidPss:
		return api.Alg{Kind: api.AlgPss, Digest: api.Sha1, Mask: api.Sha1, Salt: 20}
	case oidEcdsaSha1:
		return api.Alg{Kind: api.AlgEcdsa, Digest: api.Sha1}
	case oidEcdsaSha256:
		return api.Alg{Kind: api.AlgEcdsa, Digest: api.Sha256}
	case oidEcdsaSha384:
		return api.Alg{Kind: api.AlgEcdsa, Digest: api.Sha384}
	case oidEcdsaSha512:
		return api.Alg{Kind: api.AlgEcdsa, Digest: api.Sha512}
	}
	return api.Alg{}
}

// readPss changes the way a by what its rest says.
func readPss(a api.Alg, rest []api.Tlv) (api.Alg, error) {
	if len(rest) != 1 {
		return api.Alg{}, none("no rest")
	}
	l, ok := row(rest[0])
	if !ok {
		return api.Alg{}, none("no row in the rest")
	}
	least := 0
	for _, x := range l {
		if x.Class != api.Context || !x.Cons || x.Tag < least {
			return api.Alg{}, none("an element of the rest")
		}
		if err := readField(&a, x); err != nil {
			return api.Alg{}, err
		}
		least = x.Tag + 1
	}
	return a, nil
}

// readField puts what a field is about where its tag says.
func readField(a *api.Alg, field api.Tlv) error {
	x, e := der.One(field.Data)
	if e != api.OK {
		return none("a field not about one element")
	}
	var err error
	switch field.Tag {
	case 0:
		a.Digest, err = readDigest(x)
	case 1:
		a.Mask, err = readMask(x)
	case 2:
		a.Salt, err = readInt(x, 0, maxSalt)
	case 3:
		_, err = readInt(x, 1, 1)
	default:
		err = none("a field of another tag")
	}
	return err
}

func readMask(x api.Tlv) (int, error) {
	id, err := readIdentifier(x)
	if err != nil {
		return 0, err
	}
	if id.oid != oidMask || id.isAlone() {
		return 0, none("no mask's digest")
	}
	return readDigest(id.rest[0])
}

func readInt(x api.Tlv, least, most int) (int, error) {
	if !isPlain(x, api.TagInt) {
		return 0, none("no Int")
	}
	n, e := der.Int(x.Data)
	if e != api.OK || n < least || n > most {
		return 0, none("no such Int")
	}
	return n, nil
}
