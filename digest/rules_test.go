package digest_test

import (
	"slices"
	"testing"

	"chirograph/api"
	"chirograph/digest"
)

func whole(b []byte) []byte {
	return b[:cap(b)]
}

// roomy has spare room in which something stands.
func roomy(b []byte) []byte {
	l := append(slices.Clone(b), 11, 12, 13, 14, 15, 16)
	return l[:len(b)]
}

func scribble(b []byte) {
	for i := range whole(b) {
		whole(b)[i] ^= 0xff
	}
}

// The rule of memory: what is handed in stays as it is, spare room and list of
// lists too.
func TestArgumentsStay(t *testing.T) {
	for _, alg := range algs {
		for _, n := range []int{0, 1, 55, 63, 64, 65, 127, 128, 129, 300} {
			b, c := roomy(some(n)), roomy(some(n+1))
			wasB, wasC := slices.Clone(whole(b)), slices.Clone(whole(c))
			l := [][]byte{b, c, nil}
			sum, e := digest.Sum(alg, l[:2]...)
			want(t, alg, slices.Concat(b, c), sum, e)
			h := fresh(t, alg, b, c)
			wantHash(t, h, alg, slices.Concat(b, c))
			scribble(sum)
			scribble(h.Sum())
			if !slices.Equal(whole(b), wasB) || !slices.Equal(whole(c), wasC) {
				t.Errorf("alg %d, %d bytes: an argument was changed", alg, n)
			}
			if l[2] != nil || &l[0][:1][0] != &b[:1][0] || &l[1][0] != &c[0] {
				t.Errorf("alg %d, %d bytes: the list of lists was changed", alg, n)
			}
		}
	}
}

// What was handed in is not kept: what becomes of it afterwards plays no part.
func TestArgumentsAreNotKept(t *testing.T) {
	for _, alg := range algs {
		for _, n := range []int{1, 10, 63, 64, 65, 127, 128, 129, 300} {
			m := some(2 * n)
			b := roomy(m[:n])
			h := fresh(t, alg, b)
			scribble(b)
			wantHash(t, h, alg, m[:n])
			b = roomy(m[n:])
			write(t, h, b)
			scribble(b)
			wantHash(t, h, alg, m)
		}
	}
}

// Each answer is memory of its own: scribbling on one, its spare room too,
// is not seen in another nor in the Hash.
func TestAnswersStandApart(t *testing.T) {
	for _, alg := range algs {
		for _, n := range []int{0, 1, 63, 64, 127, 128, 300} {
			m := some(n)
			h := fresh(t, alg, m)
			first, second := h.Sum(), h.Sum()
			third, e := digest.Sum(alg, m)
			scribble(first)
			want(t, alg, m, second, api.OK)
			want(t, alg, m, third, e)
			scribble(second)
			want(t, alg, m, third, e)
			wantHash(t, h, alg, m)
			write(t, h, m)
			wantHash(t, h, alg, slices.Concat(m, m))
		}
	}
}

// One list handed in twice is like two that are alike.
func TestSameListTwice(t *testing.T) {
	for _, alg := range algs {
		m := some(100)
		b, e := digest.Sum(alg, m, m, m)
		want(t, alg, slices.Concat(m, m, m), b, e)
	}
}

// The rule of the first error: no such alg ahead of too many bytes, nil ahead
// of too many bytes.
func TestFirstError(t *testing.T) {
	long := make([]byte, api.MaxTotal+1)
	if b, e := digest.Sum(0, long); len(b) != 0 || e != api.ErrArg {
		t.Errorf("Sum: %x, error %d", b, e)
	}
	if e := (*digest.Hash)(nil).Write(long); e != api.ErrNil {
		t.Errorf("Write: error %d", e)
	}
}
