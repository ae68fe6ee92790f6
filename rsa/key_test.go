package rsa_test

import (
	"math/big"
	"math/rand"
	"slices"
	"testing"

	"chirograph/api"
	"chirograph/rsa"
)

// padded puts limbs 0 behind a, so that the list has n limbs.
func padded(a limbs, n int) limbs {
	return append(slices.Clone(a), make(limbs, n-len(a))...)
}

// odd is a modulus of so many bits.
func odd(bits int) limbs {
	return list(new(big.Int).Add(pow2(bits-1), big.NewInt(1)))
}

func wantKey(t *testing.T, k api.RsaKey, size int) {
	t.Helper()
	if e, n := rsa.Check(k), rsa.Size(k); e != api.OK || n != size {
		t.Errorf("N %x, E %x: error %d, Size %d; wanted %d", k.N, k.E, e, n, size)
	}
}

// wantNoKey asks all that is handed such a key.
func wantNoKey(t *testing.T, k api.RsaKey) {
	t.Helper()
	if e, n := rsa.Check(k), rsa.Size(k); e != api.ErrKey || n != 0 {
		t.Errorf("N %x, E %x: error %d, Size %d; wanted no key", k.N, k.E, e, n)
	}
	for _, sig := range [][]byte{nil, make([]byte, 64), make([]byte, 4*len(k.N)), make([]byte, 5000)} {
		wantNoRaw(t, k, sig, api.ErrKey)
		wantErrno(t, "Verify without a key", rsa.Verify(k, api.Sha1, make([]byte, 20), sig), api.ErrKey)
		wantErrno(t, "VerifyPss without a key", rsa.VerifyPss(k, api.Sha1, api.Sha1, 20, make([]byte, 20), sig), api.ErrKey)
	}
}

// P8.1

func TestModulus(t *testing.T) {
	three := limbs{3}
	for bits := 512; bits < 600; bits++ {
		n := odd(bits)
		wantKey(t, api.RsaKey{N: n, E: three}, (bits+7)/8)
		wantKey(t, api.RsaKey{N: padded(n, api.MaxModulus), E: three}, (bits+7)/8)
		all := list(new(big.Int).Sub(pow2(bits), big.NewInt(1)))
		wantKey(t, api.RsaKey{N: all, E: three}, (bits+7)/8)
	}
	wantKey(t, api.RsaKey{N: odd(32 * api.MaxModulus), E: three}, 1024)
	wantKey(t, api.RsaKey{N: odd(32*api.MaxModulus - 7), E: three}, 1024)
	wantKey(t, api.RsaKey{N: odd(32*api.MaxModulus - 8), E: three}, 1023)
}

func TestNoModulus(t *testing.T) {
	all := list(new(big.Int).Sub(pow2(511), big.NewInt(1)))
	even := odd(512)
	even[0] = 2
	for _, n := range []limbs{
		nil, {}, {0}, {15}, {1}, make(limbs, api.MaxModulus),
		odd(511), all, padded(all, 17), padded(odd(511), api.MaxModulus), odd(480), odd(33),
		list(pow2(511)), list(pow2(600)), even, padded(even, 30),
		odd(32*api.MaxModulus + 1), odd(33 * api.MaxModulus), odd(100000),
		padded(odd(512), api.MaxModulus+1), padded(odd(512), 5000), make(limbs, api.MaxModulus+1),
	} {
		wantNoKey(t, api.RsaKey{N: n, E: limbs{3}})
	}
}

func TestExponent(t *testing.T) {
	n := odd(512)
	for _, e := range []limbs{
		{3}, {5}, {7}, {65537}, {1<<32 - 1}, {1, 1}, {1, 1 << 31}, {1<<32 - 1, 1<<32 - 1}, {3, 0}, {3, 0, 0},
		padded(limbs{3}, api.MaxModulus), padded(limbs{1<<32 - 1, 1<<32 - 1}, api.MaxModulus),
	} {
		wantKey(t, api.RsaKey{N: n, E: e}, 64)
	}
}

func TestNoExponent(t *testing.T) {
	n := odd(512)
	for _, e := range []limbs{
		nil, {}, {0}, {0, 0}, {1}, {1, 0}, {2}, {4}, {6}, {65536}, {0, 1}, {2, 1}, {1<<32 - 2, 1<<32 - 1}, padded(limbs{1}, 256), make(limbs, 256),
		{1, 0, 1}, {3, 0, 1}, {0, 0, 1}, {1<<32 - 1, 1<<32 - 1, 1}, odd(512), odd(32 * api.MaxModulus),
		padded(limbs{3}, api.MaxModulus+1), padded(limbs{3}, 5000), odd(9000),
	} {
		wantNoKey(t, api.RsaKey{N: n, E: e})
	}
	wantNoKey(t, api.RsaKey{})
	wantNoKey(t, api.RsaKey{N: limbs{15}})
}

// P8.2

func modelRaw(k api.RsaKey, sig []byte) []byte {
	n := value(k.N)
	return new(big.Int).Exp(new(big.Int).SetBytes(sig), value(k.E), n).FillBytes(make([]byte, (n.BitLen()+7)/8))
}

func TestRaw(t *testing.T) {
	r := rand.New(rand.NewSource(81))
	for range 300 {
		bits := 512 + r.Intn(80)
		v := new(big.Int).Rand(r, pow2(bits-1))
		n := v.Or(v.Add(v, pow2(bits-1)), big.NewInt(1))
		k := api.RsaKey{N: list(n), E: list(new(big.Int).SetUint64(pick(r, 3, 5, 17, 65537, r.Uint64()|1|1<<32, 1<<64-1)))}
		size := (bits + 7) / 8
		for _, s := range []*big.Int{new(big.Int).Rand(r, n), new(big.Int).Rand(r, pow2(r.Intn(bits-1))), new(big.Int).Sub(n, big.NewInt(1))} {
			sig := s.FillBytes(make([]byte, size))
			asked := modelRaw(k, sig)
			wantRaw(t, k, sig, asked)
			wantRaw(t, api.RsaKey{N: padded(k.N, 40), E: padded(k.E, 40)}, sig, asked)
		}
	}
}

// Where the answer is small, noughts stand ahead.
func TestRawOfSmallNumbers(t *testing.T) {
	for _, bits := range []int{512, 513, 520, 521, 1024} {
		size := (bits + 7) / 8
		k := api.RsaKey{N: odd(bits), E: limbs{3}}
		for i := range 7 {
			sig, asked := make([]byte, size), make([]byte, size)
			sig[size-1], asked[size-1] = byte(i), byte(i*i*i)
			wantRaw(t, k, sig, asked)
		}
	}
}

func TestRawOfLongestKey(t *testing.T) {
	r := rand.New(rand.NewSource(82))
	n := value(odd(32 * api.MaxModulus))
	n.Add(n, new(big.Int).Lsh(new(big.Int).Rand(r, pow2(8000)), 1))
	k := api.RsaKey{N: list(n), E: limbs{1<<32 - 1, 1<<32 - 1}}
	sig := new(big.Int).Rand(r, n).FillBytes(make([]byte, 1024))
	wantRaw(t, k, sig, modelRaw(k, sig))
}

func TestRawOfOtherLengths(t *testing.T) {
	for _, bits := range []int{512, 513, 600} {
		size := (bits + 7) / 8
		k := api.RsaKey{N: odd(bits), E: limbs{3}}
		for _, n := range []int{0, 1, size - 1, size + 1, 2 * size, 2048, 2049, 10000} {
			wantNoRaw(t, k, make([]byte, n), api.ErrSig)
		}
	}
}

// The number must be below N: N less 1 is, N is not, nor is what has the same
// power modulo N.
func TestRawAroundTheModulus(t *testing.T) {
	for _, bits := range []int{512, 513, 519, 520, 521, 1024} {
		size := (bits + 7) / 8
		n := value(odd(bits))
		k := api.RsaKey{N: odd(bits), E: limbs{3}}
		below := new(big.Int).Sub(n, big.NewInt(1)).FillBytes(make([]byte, size))
		wantRaw(t, k, below, below) // -1 to an odd power
		for _, more := range []int64{0, 1, 2, 255} {
			wantNoRaw(t, k, new(big.Int).Add(n, big.NewInt(more)).FillBytes(make([]byte, size)), api.ErrSig)
		}
		last := make([]byte, size)
		for i := range last {
			last[i] = 0xff
		}
		wantNoRaw(t, k, last, api.ErrSig)
	}
}
