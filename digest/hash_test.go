package digest_test

import (
	"math/rand"
	"slices"
	"testing"

	"chirograph/api"
	"chirograph/digest"
)

// P2.4

func TestNew(t *testing.T) {
	for _, alg := range algs {
		h := fresh(t, alg)
		wantHash(t, h, alg, nil)
	}
	for _, alg := range noAlgs {
		if h, e := digest.New(alg); h != nil || e != api.ErrArg {
			t.Errorf("New(%d): %v, error %d", alg, h, e)
		}
	}
}

func TestNilHash(t *testing.T) {
	var h *digest.Hash
	if h.Alg() != 0 || h.Len() != 0 || len(h.Sum()) != 0 {
		t.Errorf("nil: Alg %d, Len %d, Sum %x", h.Alg(), h.Len(), h.Sum())
	}
	for _, b := range [][]byte{nil, {}, {1}, make([]byte, api.MaxTotal+1)} {
		if e := h.Write(b); e != api.ErrNil {
			t.Errorf("nil: Write of %d bytes: error %d", len(b), e)
		}
	}
}

// What a Hash answers that no call made is open, but it answers.
func TestZeroHashEnds(t *testing.T) {
	h := new(digest.Hash)
	for _, n := range []int{0, 1, 64, 200, api.MaxTotal + 1} {
		h.Write(make([]byte, n))
		h.Sum()
		h.Len()
		h.Alg()
	}
}

func TestWriteOnBehindSum(t *testing.T) {
	for _, alg := range algs {
		m := some(3*digest.Block(alg) + 1)
		h := fresh(t, alg)
		for i := range m {
			wantHash(t, h, alg, m[:i])
			wantHash(t, h, alg, m[:i])
			write(t, h, m[i:i+1])
		}
		wantHash(t, h, alg, m)
	}
}

func TestWriteNothing(t *testing.T) {
	for _, alg := range algs {
		for _, n := range []int{0, 1, 63, 64, 65, 127, 128, 129} {
			h := fresh(t, alg, nil, some(n), []byte{}, nil)
			wantHash(t, h, alg, some(n))
		}
	}
}

// What would be too long changes nothing, at any place; and afterwards that
// which fits still goes in.
func TestWriteTooMuch(t *testing.T) {
	most := some(api.MaxTotal)
	long := append(slices.Clone(most), 1)
	for _, alg := range algs {
		h := fresh(t, alg)
		for _, n := range []int{0, 1, 100, 5000} {
			write(t, h, most[h.Len():n])
			for _, b := range [][]byte{long[n:], long} {
				if e := h.Write(b); e != api.ErrLong {
					t.Errorf("alg %d: Write of %d bytes behind %d: error %d", alg, len(b), n, e)
				}
			}
			wantHash(t, h, alg, most[:n])
		}
		write(t, h, most[5000:])
		if e := h.Write([]byte{0}); e != api.ErrLong {
			t.Errorf("alg %d: Write behind MaxTotal bytes: error %d", alg, e)
		}
		write(t, h, nil)
		wantHash(t, h, alg, most)
	}
}

func TestSideBySide(t *testing.T) {
	for _, alg := range algs {
		for _, other := range algs {
			m, n := some(700), some(701)
			h, g := fresh(t, alg), fresh(t, other)
			for i := 0; i < 700; i += 35 {
				write(t, h, m[i:i+35])
				wantHash(t, g, other, n[:i])
				write(t, g, n[i:i+35])
				wantHash(t, h, alg, m[:i+35])
			}
			wantHash(t, g, other, n[:700])
		}
	}
}

// P2.5

// Every way to cut a message in three, where the pieces end within, at and
// behind the blocks.
func TestCutInThree(t *testing.T) {
	for _, alg := range algs {
		for _, n := range []int{3, 55, 56, 64, 111, 112, 129} {
			m := some(n)
			asked := library(alg, m)
			for i := range n + 1 {
				for j := i; j <= n; j++ {
					b, e := digest.Sum(alg, m[:i], m[i:j], m[j:])
					if e != api.OK || !slices.Equal(b, asked) {
						t.Fatalf("alg %d: %d bytes, cut at %d and %d: %x, error %d", alg, n, i, j, b, e)
					}
				}
			}
		}
	}
}

// Every way at all to cut the bytes around a block's end.
func TestCutAroundTheBlocksEnd(t *testing.T) {
	const around = 10
	for _, alg := range algs {
		at := digest.Block(alg) - around/2
		m := some(at + around)
		for cuts := range 1 << around {
			h := fresh(t, alg)
			from := 0
			for i := range around {
				if cuts>>i&1 == 1 {
					write(t, h, m[from:at+i])
					from = at + i
				}
			}
			write(t, h, m[from:])
			wantHash(t, h, alg, m)
		}
	}
}

func TestCutEverySoManyBytes(t *testing.T) {
	m := some(600)
	for _, alg := range algs {
		for piece := 1; piece <= len(m); piece++ {
			l := slices.Collect(slices.Chunk(m, piece))
			b, e := digest.Sum(alg, l...)
			want(t, alg, m, b, e)
			wantHash(t, fresh(t, alg, l...), alg, m)
		}
	}
}

func TestCutByChance(t *testing.T) {
	r := rand.New(rand.NewSource(2))
	for range 500 {
		m := some(r.Intn(2000))
		var l [][]byte
		for left := m; len(left) > 0; {
			n := min(r.Intn(200), len(left))
			l = append(l, left[:n])
			left = left[n:]
		}
		for _, alg := range algs {
			b, e := digest.Sum(alg, l...)
			want(t, alg, m, b, e)
			wantHash(t, fresh(t, alg, l...), alg, m)
		}
	}
}
