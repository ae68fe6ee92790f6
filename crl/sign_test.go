package crl_test

import (
	"crypto/sha1"
	"math/big"
	"math/rand"
	"slices"

	"chirograph/api"
)

// Small keys with their secrets, and signatures made by them, by great numbers.

var one = big.NewInt(1)

// product is a key whose exponent is 65537.
type product struct {
	n, d *big.Int
}

func primeOf(r *rand.Rand, bits int) *big.Int {
	e := big.NewInt(65537)
	for {
		p := new(big.Int).Rand(r, new(big.Int).Lsh(one, uint(bits-2)))
		p.SetBit(p.SetBit(p.SetBit(p, bits-1, 1), bits-2, 1), 0, 1)
		if p.ProbablyPrime(8) && new(big.Int).GCD(nil, nil, e, new(big.Int).Sub(p, one)).Cmp(one) == 0 {
			return p
		}
	}
}

func newProduct(r *rand.Rand) product {
	p, q := primeOf(r, 256), primeOf(r, 256)
	order := new(big.Int).Mul(new(big.Int).Sub(p, one), new(big.Int).Sub(q, one))
	return product{new(big.Int).Mul(p, q), new(big.Int).ModInverse(big.NewInt(65537), order)}
}

func (k product) key() api.Key {
	var n []uint32
	for v := new(big.Int).Set(k.n); v.Sign() > 0; v.Rsh(v, 32) {
		n = append(n, uint32(new(big.Int).And(v, big.NewInt(1<<32-1)).Uint64()))
	}
	return api.Key{Rsa: api.RsaKey{N: n, E: []uint32{65537}}}
}

// sign signs a text's digest by SHA-1.
func (k product) sign(text []byte) []byte {
	sum := sha1.Sum(text)
	told := seq(hx("30 09 06 05 2b 0e 03 02 1a 05 00"), el(0x04, sum[:]))
	b := slices.Concat([]byte{0, 1}, often(64-3-len(told), byte(0xff)), []byte{0}, told)
	return new(big.Int).Exp(new(big.Int).SetBytes(b), k.d, k.n).FillBytes(make([]byte, 64))
}

// signed is c with the key's signature.
func (k product) signed(c laid) laid {
	c = c.signing(hx(hexRsaSha1))
	c.sig = el(0x03, []byte{0}, k.sign(c.tbs()))
	return c
}
