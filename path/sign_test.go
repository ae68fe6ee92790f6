package path_test

import (
	"crypto/sha1"
	"math/big"
	"math/rand"
	"slices"

	"chirograph/api"
)

// Small keys with their secrets, and signatures made by them, by great numbers.

var one = big.NewInt(1)

// product is a key whose exponent is 65537.
type product struct {
	n, d *big.Int
}

func primeOf(r *rand.Rand, bits int) *big.Int {
	e := big.NewInt(65537)
	for {
		p := new(big.Int).Rand(r, new(big.Int).Lsh(one, uint(bits-2)))
		p.SetBit(p.SetBit(p.SetBit(p, bits-1, 1), bits-2, 1), 0, 1)
		if p.ProbablyPrime(8) && new(big.Int).GCD(nil, nil, e, new(big.Int).Sub(p, one)).Cmp(one) == 0 {
			return p
		}
	}
}

func newProduct(r *rand.Rand) product {
	p, q := primeOf(r, 256), primeOf(r, 256)
	order := new(big.Int).Mul(new(big.Int).Sub(p, one), new(big.Int).Sub(q, one))
	return product{new(big.Int).Mul(p, q), new(big.Int).ModInverse(big.NewInt(65537), order)}
}

func (k product) key() api.Key {
	var n []uint32
	for v := new(big.Int).Set(k.n); v.Sign() > 0; v.Rsh(v, 32) {
		n = append(n, uint32(new(big.Int).And(v, big.NewInt(1<<32-1)).Uint64()))
	}
	return api.Key{Rsa: api.RsaKey{N: n, E: []uint32{65537}}}
}

// signatures are those that were made already: the same ones are asked for often.
var signatures = map[string][]byte{}

// sign signs a text's digest by SHA-1.
func (k product) sign(text []byte) []byte {
	at := k.n.String() + "/" + string(text)
	if signatures[at] == nil {
		signatures[at] = k.make(text)
	}
	return slices.Clone(signatures[at])
}

func (k product) make(text []byte) []byte {
	sum := sha1.Sum(text)
	told := append([]byte{0x30, 0x21, 0x30, 9, 6, 5, 0x2b, 0x0e, 3, 2, 0x1a, 5, 0, 4, 20}, sum[:]...)
	b := slices.Concat([]byte{0, 1}, slices.Repeat([]byte{0xff}, 64-3-len(told)), []byte{0}, told)
	return new(big.Int).Exp(new(big.Int).SetBytes(b), k.d, k.n).FillBytes(make([]byte, 64))
}

// products are the keys of all tests, made but once.
var products = func() []product {
	r := rand.New(rand.NewSource(1600))
	l := make([]product, 14)
	for i := range l {
		l[i] = newProduct(r)
	}
	return l
}()
