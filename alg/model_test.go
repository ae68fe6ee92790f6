package alg_test

import (
	"bytes"
	"crypto/elliptic"
	"math/big"
	"slices"

	"chirograph/api"
)

// What the document says, written once more in another way: elements in the one
// way are as few as the algorithms, so that all that name one can be laid ahead.

// digests are the Data of all elements that name one.
func digests() map[string]int {
	m := map[string]int{}
	for i, digits := range []string{hexSha1, hexSha256, hexSha384, hexSha512} {
		m[string(oid(digits))] = algs[i]
		m[string(oid(digits))+string(void)] = algs[i]
	}
	return m
}

// ways are the Data of all elements that name a way to sign.
func ways() map[string]api.Alg {
	m := map[string]api.Alg{}
	for i, digits := range []string{hexRsa, hexRsaSha1, hexRsaSha256, hexRsaSha384, hexRsaSha512} {
		m[string(oid(digits))] = api.Alg{Kind: api.AlgRsa, Digest: i}
		m[string(oid(digits))+string(void)] = api.Alg{Kind: api.AlgRsa, Digest: i}
	}
	for i, digits := range []string{hexEcdsaSha1, hexEcdsaSha256, hexEcdsaSha384, hexEcdsaSha512} {
		m[string(oid(digits))] = api.Alg{Kind: api.AlgEcdsa, Digest: i + 1}
	}
	for s, a := range pssWays() {
		m[s] = a
	}
	return m
}

// option is a field of a rest, or none, and what it says.
type option struct {
	laid []byte
	says int
}

// pssOptions are all that may stand in a rest for one of its tags.
func pssOptions(tag int) []option {
	l := []option{{nil, []int{api.Sha1, api.Sha1, 20, 1}[tag]}}
	head := byte(0xa0 + tag)
	switch tag {
	case 0:
		for s, d := range digests() {
			l = append(l, option{el(head, el(0x30, []byte(s))), d})
		}
	case 1:
		for s, d := range digests() {
			l = append(l, option{el(head, el(0x30, oid(hexMask), el(0x30, []byte(s)))), d})
		}
	case 2:
		for n := range 1001 {
			l = append(l, option{el(head, el(0x02, small(n))), n})
		}
	case 3:
		l = append(l, option{el(head, el(0x02, small(1))), 1})
	}
	return l
}

// small has a number's bytes, in two's complement.
func small(n int) []byte {
	if n < 128 {
		return []byte{byte(n)}
	}
	return []byte{byte(n >> 8), byte(n)}
}

func pssWays() map[string]api.Alg {
	m := map[string]api.Alg{}
	salts, tails := pssOptions(2), pssOptions(3)
	for _, d := range pssOptions(0) {
		for _, mask := range pssOptions(1) {
			for _, salt := range salts {
				for _, tail := range tails {
					rest := el(0x30, d.laid, mask.laid, salt.laid, tail.laid)
					m[string(oid(hexPss))+string(rest)] = api.Alg{Kind: api.AlgPss, Digest: d.says, Mask: mask.says, Salt: salt.says}
				}
			}
		}
	}
	return m
}

// unlaid has the data of which el lays all of b.
func unlaid(head byte, b []byte) ([]byte, bool) {
	for n := 2; n <= min(len(b), 5); n++ {
		if bytes.Equal(el(head, b[n:]), b) {
			return b[n:], true
		}
	}
	return nil, false
}

// modelKey tells what Key should of a Seq's Data.
func modelKey(data []byte) (api.Key, api.Errno) {
	for _, id := range [][]byte{el(0x30, oid(hexRsa)), el(0x30, oid(hexRsa), void)} {
		if bits, ok := keyBits(data, id); ok {
			return modelRsa(bits)
		}
	}
	for i, digits := range []string{hexP256, hexP384} {
		if bits, ok := keyBits(data, el(0x30, oid(hexPoint), oid(digits))); ok {
			return modelPoint(i+1, bits)
		}
	}
	return api.Key{}, api.ErrAlg
}

// keyBits has the bits that stand behind id.
func keyBits(data, id []byte) ([]byte, bool) {
	behind, ok := bytes.CutPrefix(data, id)
	if !ok {
		return nil, false
	}
	b, ok := unlaid(0x03, behind)
	if !ok || len(b) == 0 || b[0] != 0 {
		return nil, false
	}
	return b[1:], true
}

func modelRsa(bits []byte) (api.Key, api.Errno) {
	b, ok := unlaid(0x30, bits)
	if !ok {
		return api.Key{}, api.ErrKey
	}
	for i := range b {
		n, first := unlaid(0x02, b[:i])
		e, second := unlaid(0x02, b[i:])
		if first && second && isNumber(n) && isNumber(e) && mayBe(n, e) {
			return api.Key{Rsa: api.RsaKey{N: list(new(big.Int).SetBytes(n)), E: list(new(big.Int).SetBytes(e))}}, api.OK
		}
	}
	return api.Key{}, api.ErrKey
}

// isNumber asks for bytes that a number has, which is not below 0.
func isNumber(b []byte) bool {
	v := new(big.Int).SetBytes(b)
	return bytes.Equal(b, v.FillBytes(make([]byte, v.BitLen()/8+1)))
}

func mayBe(n, e []byte) bool {
	v, w := new(big.Int).SetBytes(n), new(big.Int).SetBytes(e)
	return v.BitLen() >= 512 && v.BitLen() <= 32*api.MaxModulus && v.Bit(0) == 1 && w.Cmp(big.NewInt(3)) >= 0 && w.BitLen() <= 64 && w.Bit(0) == 1
}

func modelPoint(c int, bits []byte) (api.Key, api.Errno) {
	size := libraryCurve(c).Params().BitSize / 8
	if len(bits) != 1+2*size || bits[0] != 4 {
		return api.Key{}, api.ErrKey
	}
	x, y := new(big.Int).SetBytes(bits[1:1+size]), new(big.Int).SetBytes(bits[1+size:])
	if !isOn(c, x, y) {
		return api.Key{}, api.ErrKey
	}
	return api.Key{Curve: c, Point: api.Point{X: list(x), Y: list(y)}}, api.OK
}

func isOn(c int, x, y *big.Int) bool {
	p := libraryCurve(c).Params()
	if x.Cmp(p.P) >= 0 || y.Cmp(p.P) >= 0 {
		return false
	}
	v := new(big.Int).Mul(x, x)
	v.Sub(v, big.NewInt(3)).Mul(v, x).Add(v, p.B).Sub(v, new(big.Int).Mul(y, y))
	return v.Mod(v, p.P).Sign() == 0
}

func libraryCurve(c int) elliptic.Curve {
	if c == api.P256 {
		return elliptic.P256()
	}
	return elliptic.P384()
}

// list is the number of a value.
func list(v *big.Int) limbs {
	var a limbs
	for v = new(big.Int).Set(v); v.Sign() > 0; v.Rsh(v, 32) {
		a = append(a, uint32(new(big.Int).And(v, big.NewInt(1<<32-1)).Uint64()))
	}
	return slices.Clip(a)
}
