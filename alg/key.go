package alg

import (
	"chirograph/api"
	"chirograph/curve"
	"chirograph/der"
	"chirograph/rsa"
)

// The object identifiers of keys that are points, and of their curves; those of
// the other kind go by oidRsa.
const (
	oidPoint = "1.2.840.10045.2.1"
	oidP256  = "1.2.840.10045.3.1.7"
	oidP384  = "1.3.132.0.34"
)

func readKey(x api.Tlv) (api.Key, error) {
	l, ok := row(x)
	if !ok || len(l) != 2 {
		return api.Key{}, none("no algorithm with bits")
	}
	id, err := readIdentifier(l[0])
	if err != nil {
		return api.Key{}, err
	}
	bits, ok := readBytes(l[1])
	if !ok {
		return api.Key{}, none("no bits, or some to spare")
	}
	switch id.oid {
	case oidRsa:
		if id.isAlone() || id.isVoid() {
			return readRsa(bits)
		}
	case oidPoint:
		if c := curveNamed(id.rest); c != 0 {
			return readPoint(c, bits)
		}
	}
	return api.Key{}, none(id.oid + ", or its rest")
}

// readBytes has what bits are that fill whole bytes.
func readBytes(x api.Tlv) ([]byte, bool) {
	if !isPlain(x, api.TagBits) {
		return nil, false
	}
	b, spare, e := der.Bits(x.Data)
	return b, e == api.OK && spare == 0
}

// curveNamed is 0 where a rest is no curve's Oid.
func curveNamed(rest []api.Tlv) int {
	if len(rest) != 1 {
		return 0
	}
	oid, ok := readOid(rest[0])
	switch {
	case ok && oid == oidP256:
		return api.P256
	case ok && oid == oidP384:
		return api.P384
	}
	return 0
}

func readRsa(bits []byte) (api.Key, error) {
	x, e := der.One(bits)
	if e != api.OK {
		return api.Key{}, noKey("not one element")
	}
	l, ok := row(x)
	if !ok || len(l) != 2 {
		return api.Key{}, noKey("no two numbers")
	}
	n, first := readNumber(l[0])
	exponent, second := readNumber(l[1])
	k := api.RsaKey{N: n, E: exponent}
	if !first || !second || rsa.Check(k) != api.OK {
		return api.Key{}, noKey("a modulus, or an exponent")
	}
	return api.Key{Rsa: k}, nil
}

func readNumber(x api.Tlv) ([]uint32, bool) {
	if !isPlain(x, api.TagInt) {
		return nil, false
	}
	n, e := der.Uint(x.Data)
	return n, e == api.OK
}

func readPoint(c int, bits []byte) (api.Key, error) {
	p, e := curve.Parse(c, bits)
	if e != api.OK {
		return api.Key{}, noKey("no point of the curve")
	}
	return api.Key{Curve: c, Point: p}, nil
}
