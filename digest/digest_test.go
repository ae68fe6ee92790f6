package digest_test

import (
	"slices"
	"strings"
	"testing"

	"chirograph/api"
	"chirograph/digest"
)

// P2.1

func TestSizeAndBlock(t *testing.T) {
	for i, c := range [][2]int{{20, 64}, {32, 64}, {48, 128}, {64, 128}} {
		if s, b := digest.Size(algs[i]), digest.Block(algs[i]); s != c[0] || b != c[1] {
			t.Errorf("alg %d: Size %d, Block %d", algs[i], s, b)
		}
	}
	for _, alg := range noAlgs {
		if s, b := digest.Size(alg), digest.Block(alg); s != 0 || b != 0 {
			t.Errorf("alg %d, which is none: Size %d, Block %d", alg, s, b)
		}
	}
}

// P2.2

func TestSumOfNoAlg(t *testing.T) {
	long := make([]byte, api.MaxTotal+1)
	for _, alg := range noAlgs {
		for _, l := range [][][]byte{nil, {nil}, {[]byte("abc")}, {long}, {long, long}} {
			if b, e := digest.Sum(alg, l...); len(b) != 0 || e != api.ErrArg {
				t.Errorf("Sum(%d) of %d lists: %x, error %d", alg, len(l), b, e)
			}
		}
	}
}

func TestSumOfNothing(t *testing.T) {
	for _, alg := range algs {
		for _, l := range [][][]byte{nil, {}, {nil}, {{}}, {nil, {}, nil}} {
			b, e := digest.Sum(alg, l...)
			want(t, alg, nil, b, e)
		}
	}
}

func TestSumOfMostBytes(t *testing.T) {
	most := some(api.MaxTotal)
	for _, alg := range algs {
		b, e := digest.Sum(alg, most)
		want(t, alg, most, b, e)
		b, e = digest.Sum(alg, nil, most[:1], most[1:1000], most[1000:], nil, []byte{})
		want(t, alg, most, b, e)
	}
}

func TestSumOfTooManyBytes(t *testing.T) {
	most, one := make([]byte, api.MaxTotal), []byte{1}
	half := most[:api.MaxTotal/2]
	for _, alg := range algs {
		for i, l := range [][][]byte{
			{make([]byte, api.MaxTotal+1)},
			{most, one},
			{one, most},
			{most, nil, one},
			{most, most},
			{half, half, one},
			{half, one, half},
			{one, nil, half, half, nil},
		} {
			if b, e := digest.Sum(alg, l...); len(b) != 0 || e != api.ErrLong {
				t.Errorf("Sum(%d), case %d: %x, error %d", alg, i, b, e)
			}
		}
	}
}

// P2.3

func TestKnownDigests(t *testing.T) {
	for _, c := range []struct {
		alg       int
		text, sum string
	}{
		{api.Sha1, "abc", "a9993e364706816aba3e25717850c26c9cd0d89d"},
		{api.Sha1, "", "da39a3ee5e6b4b0d3255bfef95601890afd80709"},
		{api.Sha1, strings.Repeat("a", 1000000), "34aa973cd4c4daa4f61eeb2bdbad27316534016f"},
		{api.Sha256, "", "e3b0c44298fc1c149afbf4c8996fb92427ae41e4649b934ca495991b7852b855"},
		{api.Sha256, "abc", "ba7816bf8f01cfea414140de5dae2223b00361a396177a9cb410ff61f20015ad"},
		{api.Sha384, "abc", "cb00753f45a35e8bb5a03d699ac65007272c32ab0eded1631a8b605a43ff5bed8086072ba1e7cc2358baeca134c825a7"},
		{api.Sha512, "abc", "ddaf35a193617abacc417349ae20413112e6fa4e89a97ea20a9eeee64b55d39a2192992a274fc1a836ba3c23a3feebbd454d4423643ce80e2a9ac94fa54ca49f"},
	} {
		b, e := digest.Sum(c.alg, []byte(c.text))
		if e != api.OK || !slices.Equal(b, unhex(t, c.sum)) {
			t.Errorf("alg %d of %d bytes: %x, error %d", c.alg, len(c.text), b, e)
		}
	}
}

// All lengths up to more than four blocks: each edge at which filling up wants
// one block more is among them.
func TestAllShortLengths(t *testing.T) {
	for _, alg := range algs {
		for n := range 4*digest.Block(alg) + 3 {
			b, e := digest.Sum(alg, some(n))
			want(t, alg, some(n), b, e)
			zeros := make([]byte, n)
			b, e = digest.Sum(alg, zeros)
			want(t, alg, zeros, b, e)
		}
	}
}

// Where the number of bits takes one byte more, and around blocks far behind.
func TestLongerLengths(t *testing.T) {
	for _, alg := range algs {
		for _, n := range []int{1 << 13, 1 << 16, 1 << 21, 100 * 128} {
			for _, m := range []int{n - 17, n - 16, n - 9, n - 8, n - 1, n, n + 1} {
				b, e := digest.Sum(alg, some(m))
				want(t, alg, some(m), b, e)
			}
		}
	}
}

// Bytes that are all alike, by which a word that is mixed up would not be seen,
// and bytes at each place, by which it is.
func TestEachByteCounts(t *testing.T) {
	for _, alg := range algs {
		for i := range 2 * digest.Block(alg) {
			m := slices.Repeat([]byte{255}, 2*digest.Block(alg))
			m[i] = byte(i)
			b, e := digest.Sum(alg, m)
			want(t, alg, m, b, e)
		}
	}
}
