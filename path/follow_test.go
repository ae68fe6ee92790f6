package path_test

import (
	"math/rand"
	"slices"
	"testing"

	"chirograph/api"
	"chirograph/path"
)

// P16.5

func number(s scene) int {
	n, _ := path.Validate(s.leaf, s.anchors, s.rest, s.crls, s.ask)
	return n
}

// turned is a list in another order, in which some stand twice.
func turned[T any](r *rand.Rand, l []T, twice int) []T {
	l = slices.Clone(l)
	for range twice {
		if len(l) > 0 {
			l = append(l, pick(r, l...))
		}
	}
	r.Shuffle(len(l), func(i, j int) { l[i], l[j] = l[j], l[i] })
	return l
}

// honest is a scene in which none has another one's Raw.
func honest(s scene) scene {
	for _, l := range [][]api.Cert{s.anchors, s.rest} {
		for i := range l {
			l[i].Raw = append([]byte("raw "), l[i].Tbs...)
		}
	}
	return s
}

// aside makes bounds on all that s has smaller than what was drawn: what is left
// out may be put in again.
func aside[T any](r *rand.Rand, l []T) []T {
	if len(l) == 0 {
		return l
	}
	at := r.Intn(len(l))
	return slices.Delete(slices.Clone(l), at, at+1)
}

// In whatever order all stand, and whichever stand twice, the number is the same.
func TestOrdersPlayNoPart(t *testing.T) {
	r := rand.New(rand.NewSource(164))
	told := map[int]int{}
	for range 2500 {
		s := honest(drawnScene(r, 4, 6))
		want := number(s)
		told[want]++
		for range 3 {
			m := s
			m.anchors, m.rest, m.crls = turned(r, s.anchors, r.Intn(3)), turned(r, s.rest, r.Intn(3)), turned(r, s.crls, r.Intn(3))
			if n := number(m); n != want {
				t.Fatalf("%d and %d of %s", want, n, s)
			}
		}
	}
	if told[api.Accept] < 200 || len(told) < 10 {
		t.Error(told)
	}
}

// More anchors or certificates take nothing from what is accepted; more lists
// only as one that tells of somebody.
func TestMoreAtHand(t *testing.T) {
	r := rand.New(rand.NewSource(165))
	accepted, fewer, lost := 0, 0, 0
	for range 6000 {
		more := honest(drawnScene(r, 4, 6))
		s := more
		s.anchors, s.rest = aside(r, more.anchors), aside(r, more.rest)
		if number(s) == api.Accept {
			accepted++
			if n := number(more); n != api.Accept && n != api.PathMany {
				t.Fatalf("more certificates: %d of %s", n, more)
			}
		} else if number(more) == api.Accept {
			fewer++
		}
		s = more
		s.crls = aside(r, more.crls)
		if number(s) == api.Accept {
			if n := number(more); n != api.Accept && n != api.PathRevoked && n != api.PathStatus {
				t.Fatalf("more lists: %d of %s", n, more)
			} else if n != api.Accept {
				lost++
			}
		}
	}
	if accepted < 300 || fewer < 100 || lost < 5 {
		t.Errorf("%d were accepted, %d by more alone, %d not by more lists", accepted, fewer, lost)
	}
}

// Too many of them are refused, though what is there would do.
func TestMoreThanMayBe(t *testing.T) {
	r, i, l := issue(root, root, 1), issue(root, inter, 2), issue(inter, end, 3)
	many := crowd(other, other, api.MaxCerts, 4)
	wantValidate(t, "without more", l, certs(r), certs(i), nil, asked(), api.Accept, 0, 0)
	wantValidate(t, "more anchors", l, append(certs(r), many...), certs(i), nil, asked(), api.PathMany)
	wantValidate(t, "more others", l, certs(r), append(certs(i), many...), nil, asked(), api.PathMany)
	wantValidate(t, "more lists", l, certs(r), certs(i), make([]api.Crl, api.MaxCrls+1), asked(), api.PathMany)
	wantValidate(t, "more chains", l, append(certs(r), crowd(root, root, 4, 5)...), append(certs(i), crowd(root, inter, 63, 6)...), nil, asked(), api.PathMany)
}

// Without anchors nothing is accepted.
func TestWithoutAnchors(t *testing.T) {
	r := rand.New(rand.NewSource(166))
	for range 1000 {
		s := drawnScene(r, 0, 8)
		wantValidate(t, "without anchors", s.leaf, nil, append(s.rest, s.leaf), s.crls, s.ask, api.PathNone)
		wantValidate(t, "without anchors", s.leaf, []api.Cert{}, s.rest, s.crls, s.ask, api.PathNone)
		wantChains(t, "without anchors", s.leaf, nil, append(s.rest, s.leaf))
	}
}

// Validate tells what Check tells of the chains that Chains tells, whatever is at
// hand.
func TestValidateByCheck(t *testing.T) {
	r := rand.New(rand.NewSource(167))
	for range 3000 {
		s := drawnScene(r, 6, 6)
		chains, e := path.Chains(s.leaf, s.anchors, s.rest)
		want, which := api.PathNone, []int(nil)
		for _, row := range chains {
			var chain []api.Cert
			for _, at := range row[1:] {
				chain = append(chain, s.rest[at])
			}
			n := path.Check(s.anchors[row[0]], append(chain, s.leaf), s.crls, s.ask)
			if n == api.Accept {
				want, which = n, row
				break
			}
			want = max(want, n)
		}
		if e != api.OK {
			want, which = api.PathMany, nil
		}
		wantValidate(t, "by Check", s.leaf, s.anchors, s.rest, s.crls, s.ask, want, which...)
	}
}
