package ecdsa_test

import (
	"math/big"
	"math/rand"
	"slices"
	"testing"

	"chirograph/api"
	"chirograph/ecdsa"
)

func whole[T any](l []T) []T {
	return l[:cap(l)]
}

// roomy is l in other memory, with spare room in which something stands.
func roomy[T byte | uint32](l []T) []T {
	return append(slices.Clone(l), 11, 12, 13, 14, 15, 16, 17)[:len(l)]
}

func scribble[T byte | uint32](l []T) {
	for i := range whole(l) {
		whole(l)[i] ^= 0xff
	}
}

// The rule of memory: what is handed in stays as it is, spare room too, though
// what is answered is scribbled on; and spare room plays no part.
func TestArgumentsStay(t *testing.T) {
	chance := rand.New(rand.NewSource(117))
	for _, c := range curves {
		for _, n := range []int{0, 20, 600} {
			d := factor(chance, c)
			key := long(base(c, d), n)
			right := some(chance, 64)
			x, y := sign(c, d, factor(chance, c), right)
			p := api.Point{X: roomy(key.X), Y: roomy(key.Y)}
			r, s := roomy(padded(list(x), 40)), roomy(list(y))
			sum, sig := roomy(right), roomy(laid(x, y))
			numbers := []limbs{p.X, p.Y, r, s}
			was := []limbs{}
			for _, l := range numbers {
				was = append(was, slices.Clone(whole(l)))
			}
			wasSum, wasSig := slices.Clone(whole(sum)), slices.Clone(whole(sig))
			wantKey(t, c, p, api.OK)
			wantVerify(t, "with spare room", c, p, sum, sig, api.OK)
			scribble(ecdsa.Number(c, sum))
			gotR, gotS, _ := ecdsa.Parse(sig)
			scribble(gotR)
			scribble(gotS)
			built, _ := ecdsa.Build(r, s)
			scribble(built)
			for i, l := range numbers {
				if !slices.Equal(whole(l), was[i]) {
					t.Errorf("curve %d: list %d was changed", c, i)
				}
			}
			if !slices.Equal(whole(sum), wasSum) || !slices.Equal(whole(sig), wasSig) {
				t.Errorf("curve %d: bytes were changed", c)
			}
		}
	}
}

// Each list that is answered is memory of its own: it stays as it is when
// another does not, of the same answer or of a later one.
func TestAnswersStandApart(t *testing.T) {
	for _, v := range []*big.Int{one, order(api.P256), prime(api.P384)} {
		sig := laid(v, v)
		r, s, _ := ecdsa.Parse(sig)
		again, other, _ := ecdsa.Parse(sig)
		once := ecdsa.Number(api.P384, sig)
		later := ecdsa.Number(api.P384, sig)
		built, _ := ecdsa.Build(r, s)
		anew, _ := ecdsa.Build(r, s)
		scribble(r)
		scribble(once)
		scribble(built)
		for i, l := range []limbs{s, again, other} {
			if !slices.Equal(l, list(v)) {
				t.Errorf("list %d shares memory: %x", i, l)
			}
		}
		if !slices.Equal(later, list(number(api.P384, sig))) || !slices.Equal(anew, sig) {
			t.Errorf("answers share memory: %x, %x", later, anew)
		}
	}
}

// What is told hangs on the arguments alone: not on what was asked before, nor
// on whether that gave up.
func TestNothingIsKept(t *testing.T) {
	chance := rand.New(rand.NewSource(118))
	for _, c := range curves {
		d := factor(chance, c)
		p, sum := base(c, d), some(chance, 32)
		sig := laid(sign(c, d, factor(chance, c), sum))
		for range 3 {
			wantVerify(t, "what was signed", c, p, sum, sig, api.OK)
			wantVerify(t, "nothing", c, p, sum, nil, api.ErrSig)
			wantVerify(t, "by no key", c, api.Point{}, sum, sig, api.ErrKey)
			wantNoParse(t, nil, api.ErrNone)
			wantKey(t, c, p, api.OK)
			wantKey(t, 0, p, api.ErrArg)
		}
	}
}

func TestNilAndEmpty(t *testing.T) {
	for _, none := range []limbs{nil, {}, {0}} {
		for _, other := range []limbs{nil, {}, {0}} {
			wantBuild(t, none, other, hx("30 06 02 01 00 02 01 00"))
			for _, c := range curves {
				wantKey(t, c, api.Point{X: none, Y: other}, api.ErrKey)
			}
		}
	}
	for _, none := range [][]byte{nil, {}} {
		wantNoParse(t, none, api.ErrNone)
		for _, c := range curves {
			wantNumber(t, c, none, nil)
			wantVerify(t, "nothing", c, base(c, one), none, none, api.ErrSig)
		}
	}
	// A key whose X is 0.
	for _, c := range curves {
		p, ok := lifted(c, new(big.Int))
		if !ok {
			t.Fatal("no such point")
		}
		for _, none := range []limbs{nil, {}, {0}, make(limbs, 20)} {
			wantKey(t, c, api.Point{X: none, Y: p.Y}, api.OK)
		}
	}
}

// A key whose X is 0 verifies as another does: its secret number is unknown,
// but a digest can be made for it.
func TestVerifyByAKeyWithoutX(t *testing.T) {
	chance := rand.New(rand.NewSource(119))
	for _, c := range curves {
		p, _ := lifted(c, new(big.Int))
		u, v := factor(chance, c), factor(chance, c)
		at := plus(c, base(c, u), times(c, v, p))
		r := mod(c, value(at.X))
		s := mulMod(c, r, inverse(c, v))
		sum := sumOf(c, mulMod(c, u, s))
		wantVerify(t, "by a key without X", c, p, sum, laid(r, s), api.OK)
		wantVerify(t, "by its Neg", c, negated(c, p), sum, laid(r, s), api.ErrSig)
	}
}

// One list handed in as several arguments is like several that are alike.
func TestSameListTwice(t *testing.T) {
	for _, c := range curves {
		g := base(c, one)
		sig, e := ecdsa.Build(g.X, g.X)
		wantErrno(t, "Build", e, api.OK)
		wantVerify(t, "of noughts", c, g, make([]byte, size(c)), sig, api.OK)
		same := limbs{1}
		wantKey(t, c, api.Point{X: same, Y: same}, api.ErrKey)
		e = ecdsa.Verify(c, g, sig, sig)
		if e != api.ErrSig {
			t.Errorf("curve %d: a signature of itself: error %d", c, e)
		}
	}
}
