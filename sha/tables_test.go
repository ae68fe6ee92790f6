package sha

import (
	"math/big"
	"testing"
)

func primes(n int) []int64 {
	var l []int64
	for k := int64(2); len(l) < n; k++ {
		if big.NewInt(k).ProbablyPrime(0) {
			l = append(l, k)
		}
	}
	return l
}

// behind says whether w are the bits behind the binary point of the root of
// that power of a prime: the least number that ends so and whose root's whole
// part is right is at most the root, and the next one is above it.
func behind(w uint64, bits uint, prime, power int64) bool {
	scaled := new(big.Int).Lsh(big.NewInt(prime), bits*uint(power))
	whole := int64(1)
	for raise(big.NewInt(whole+1), power).Cmp(big.NewInt(prime)) <= 0 {
		whole++
	}
	root := new(big.Int).Lsh(big.NewInt(whole), bits)
	root.Or(root, new(big.Int).SetUint64(w))
	next := new(big.Int).Add(root, big.NewInt(1))
	return raise(root, power).Cmp(scaled) <= 0 && raise(next, power).Cmp(scaled) > 0
}

func raise(x *big.Int, power int64) *big.Int {
	return new(big.Int).Exp(x, big.NewInt(power), nil)
}

// P2.3: the constants are what the document says they are.
func TestTables(t *testing.T) {
	p := primes(80)
	for i := range 8 {
		if !behind(uint64(first256[i]), 32, p[i], 2) || !behind(first512[i], 64, p[i], 2) || !behind(first384[i], 64, p[8+i], 2) {
			t.Errorf("first states, word %d", i)
		}
	}
	for i, k := range adds256 {
		if !behind(uint64(k), 32, p[i], 3) {
			t.Errorf("adds256, word %d", i)
		}
	}
	for i, k := range adds512 {
		if !behind(k, 64, p[i], 3) {
			t.Errorf("adds512, word %d", i)
		}
	}
}
