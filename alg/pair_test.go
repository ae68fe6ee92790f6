package alg_test

import (
	"math/big"
	"math/rand"
	"slices"

	"chirograph/api"
)

// Keys with their secrets, and signatures made by them, by great numbers.

var one = big.NewInt(1)

// primeOf is a prime of so many bits, the highest two set, below which 65537
// has no factor.
func primeOf(r *rand.Rand, bits int) *big.Int {
	e := big.NewInt(65537)
	for {
		p := new(big.Int).Rand(r, new(big.Int).Lsh(one, uint(bits-2)))
		p.SetBit(p.SetBit(p.SetBit(p, bits-1, 1), bits-2, 1), 0, 1)
		if p.ProbablyPrime(8) && new(big.Int).GCD(nil, nil, e, new(big.Int).Sub(p, one)).Cmp(one) == 0 {
			return p
		}
	}
}

// product is a key of the first kind with its secrets.
type product struct {
	p, q, n, d *big.Int
}

func newProduct(r *rand.Rand, bits int) product {
	p, q := primeOf(r, bits-bits/2), primeOf(r, bits/2)
	order := new(big.Int).Mul(new(big.Int).Sub(p, one), new(big.Int).Sub(q, one))
	return product{p, q, new(big.Int).Mul(p, q), new(big.Int).ModInverse(big.NewInt(65537), order)}
}

func (k product) key() api.Key {
	return api.Key{Rsa: api.RsaKey{N: list(k.n), E: limbs{65537}}}
}

// laid is the Data of which Key tells it.
func (k product) laid() []byte {
	return rsaData(el(0x30, oid(hexRsa), void), number(k.n), number(big.NewInt(65537)))
}

func (k product) raise(raw []byte) []byte {
	size := (k.n.BitLen() + 7) / 8
	return new(big.Int).Exp(new(big.Int).SetBytes(raw), k.d, k.n).FillBytes(make([]byte, size))
}

// sign signs a digest in one of both ways, as a says it.
func (k product) sign(r *rand.Rand, a api.Alg, alg int, sum []byte) []byte {
	if a.Kind == api.AlgRsa {
		return k.raise(k.padded(alg, sum))
	}
	return k.raise(k.masked(alg, a.Mask, sum, some(r, a.Salt)))
}

func (k product) padded(alg int, sum []byte) []byte {
	digits := []string{hexSha1, hexSha256, hexSha384, hexSha512}[alg-1]
	told := el(0x30, el(0x30, oid(digits), void), el(0x04, sum))
	fill := slices.Repeat([]byte{0xff}, (k.n.BitLen()+7)/8-3-len(told))
	return slices.Concat([]byte{0, 1}, fill, []byte{0}, told)
}

func (k product) masked(alg, mask int, sum, salt []byte) []byte {
	bits := k.n.BitLen() - 1
	hash := library(alg, make([]byte, 8), sum, salt)
	m := make([]byte, (bits+7)/8-len(hash)-1)
	copy(m[len(m)-len(salt):], salt)
	m[len(m)-len(salt)-1] = 1
	for i := range m {
		size := len(library(mask))
		m[i] ^= library(mask, hash, []byte{0, 0, 0, byte(i / size)})[i%size]
	}
	spare := (8 - bits%8) % 8
	m[0] = m[0] << spare >> spare
	return slices.Concat(m, hash, []byte{0xbc})
}

// secret is a key of the second kind: so many times the base.
type secret struct {
	curve int
	d     *big.Int
}

func newSecret(r *rand.Rand, c int) secret {
	return secret{c, factor(r, c)}
}

// factor is a number by chance from 1 to the order less 1.
func factor(r *rand.Rand, c int) *big.Int {
	v := new(big.Int).Rand(r, new(big.Int).Sub(libraryCurve(c).Params().N, one))
	return v.Add(v, one)
}

func (k secret) point() (x, y *big.Int) {
	return libraryCurve(k.curve).ScalarBaseMult(k.d.Bytes())
}

func (k secret) key() api.Key {
	x, y := k.point()
	return api.Key{Curve: k.curve, Point: api.Point{X: list(x), Y: list(y)}}
}

// bits are the point's.
func (k secret) bits() []byte {
	x, y := k.point()
	size := libraryCurve(k.curve).Params().BitSize / 8
	return slices.Concat([]byte{4}, x.FillBytes(make([]byte, size)), y.FillBytes(make([]byte, size)))
}

// laid is the Data of which Key tells it.
func (k secret) laid() []byte {
	return pointData(k.curve, k.bits())
}

func (k secret) sign(r *rand.Rand, sum []byte) []byte {
	order := libraryCurve(k.curve).Params().N
	once := secret{k.curve, factor(r, k.curve)}
	x, _ := once.point()
	x.Mod(x, order)
	s := new(big.Int).SetBytes(sum[:min(len(sum), order.BitLen()/8)])
	s.Add(s, new(big.Int).Mul(x, k.d)).Mul(s, new(big.Int).ModInverse(once.d, order))
	return el(0x30, number(x), number(s.Mod(s, order)))
}

// number lays an Int that is not below 0.
func number(v *big.Int) []byte {
	return el(0x02, v.FillBytes(make([]byte, v.BitLen()/8+1)))
}

func rsaData(id []byte, numbers ...[]byte) []byte {
	return slices.Concat(id, el(0x03, []byte{0}, el(0x30, numbers...)))
}

func pointData(c int, bits []byte) []byte {
	id := el(0x30, oid(hexPoint), oid([]string{hexP256, hexP384}[c-1]))
	return slices.Concat(id, el(0x03, []byte{0}, bits))
}
