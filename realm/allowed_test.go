package realm_test

import (
	"math/rand"
	"testing"

	"chirograph/api"
)

// P14.4: the examples of the chapter.
func TestAllowed(t *testing.T) {
	wantAllowed(t, gens(dns("a")), gens(dns("b")), nil, false)
	wantAllowed(t, gens(dns("a")), gens(mail("b")), nil, true)
	wantAllowed(t, gens(dns("a")), nil, gens(dns("a")), false)
	wantAllowed(t, gens(dns("a")), nil, gens(mail("a")), true)
	wantAllowed(t, gens(dns("x.b"), mail("q@c")), gens(dns("a"), dns("b")), gens(mail("d")), true)
	wantAllowed(t, gens(dns("x.b"), mail("q@d")), gens(dns("a"), dns("b")), gens(mail("d")), false)
	wantAllowed(t, gens(dns("x.c"), mail("q@c")), gens(dns("a"), dns("b")), gens(mail("d")), false)
}

// A name that is in, and one that is out, of a base, of each kind.
type sample struct {
	in, out, base api.Gen
}

func samples() []sample {
	return []sample{
		{mail("x@b"), mail("x@c"), mail("b")},
		{dns("a.b"), dns("ab"), dns("b")},
		{dir(set{cn("A")}, set{cn("b")}), dir(set{cn("b")}, set{cn("a")}), dir(set{cn("a")})},
		{ip("01 02"), ip("02 01"), ip("01 00 ff 00")},
	}
}

// P14.4: no name, or no base, bounds nothing.
func TestAllowedNothing(t *testing.T) {
	var names, bases []api.Gen
	wantAllowed(t, nil, nil, nil, true)
	wantAllowed(t, gens(), gens(), gens(), true)
	for _, s := range samples() {
		names, bases = append(names, s.in, s.out), append(bases, s.base)
		wantAllowed(t, names, nil, nil, true)
		wantAllowed(t, nil, bases, bases, true)
	}
}

// P14.4: each kind is bounded by bases of its own kind alone.
func TestAllowedKinds(t *testing.T) {
	for i, s := range samples() {
		for j, other := range samples() {
			l := gens(other.base)
			wantAllowed(t, gens(s.in), l, nil, true)
			wantAllowed(t, gens(s.out), l, nil, i != j)
			wantAllowed(t, gens(s.in), nil, l, i != j)
			wantAllowed(t, gens(s.out), nil, l, true)
			wantAllowed(t, gens(s.in), l, l, i != j)
			wantAllowed(t, gens(s.in, other.in), gens(s.base, other.base), nil, true)
			wantAllowed(t, gens(s.in, other.out), gens(s.base, other.base), nil, false)
			wantAllowed(t, gens(other.out, s.in), gens(s.base, other.base), nil, false)
			wantAllowed(t, gens(s.out, other.out), nil, gens(s.base, other.base), true)
			wantAllowed(t, gens(s.out, other.in), nil, gens(s.base, other.base), false)
			wantAllowed(t, gens(other.in, s.out), nil, gens(s.base, other.base), false)
		}
	}
}

// P14.4: one of the permitted bases is enough, one of the excluded too many,
// wherever it stands; excluded counts, permitted or not.
func TestAllowedPlaces(t *testing.T) {
	for _, s := range samples() {
		far := s.base
		switch far.Kind {
		case api.GenMail, api.GenDns:
			far.Text = "far"
		case api.GenDir:
			far.Dir = row{{cn("far")}}
		case api.GenIp:
			far.Ip = hx("77 77 ff ff")
		}
		for n := range 20 {
			for at := range n + 1 {
				l := often(n+1, far)
				wantAllowed(t, gens(s.in), l, nil, false)
				wantAllowed(t, gens(s.in), nil, l, true)
				l[at] = s.base
				wantAllowed(t, gens(s.in), l, nil, true)
				wantAllowed(t, gens(s.out), l, nil, false)
				wantAllowed(t, gens(s.in), nil, l, false)
				wantAllowed(t, gens(s.in), gens(s.base), l, false)
				wantAllowed(t, gens(s.in), l, gens(s.base), false)
				names := often(n+1, s.in)
				names[at] = s.out
				wantAllowed(t, names, gens(s.base), nil, false)
				names = often(n+1, s.out)
				names[at] = s.in
				wantAllowed(t, names, nil, gens(s.base), false)
			}
		}
	}
}

// P14.4: names of other kinds are allowed, and bases of other kinds bound
// nothing.
func TestAllowedOtherKinds(t *testing.T) {
	for _, k := range []int{-1, 0, 3, 5, 6, 8, 9} {
		g := api.Gen{Kind: k, Text: "x@b", Ip: []byte{1}}
		wantAllowed(t, gens(g), gens(g), nil, true)
		wantAllowed(t, gens(g), nil, gens(g), true)
		wantAllowed(t, gens(g), gens(api.Gen{Kind: k, Text: "c"}), nil, true)
		for _, s := range samples() {
			wantAllowed(t, gens(g), gens(s.base), gens(s.base), true)
			wantAllowed(t, gens(s.in, s.out), gens(g), gens(g), true)
			wantAllowed(t, gens(g, s.in), gens(s.base), nil, true)
			wantAllowed(t, gens(g, s.out), gens(s.base), nil, false)
			wantAllowed(t, gens(g, s.in), nil, gens(s.base), false)
		}
	}
}

// P14.4: what is no address, and what is of no size that a net has, is in
// nothing, so it is never excluded, and never permitted where its kind is
// bounded.
func TestAllowedMisshapen(t *testing.T) {
	for _, c := range []struct{ g, base api.Gen }{{mail("b"), mail("")}, {mail("@b"), mail("b")}, {mail("x@"), mail("")}, {ip("01 02 03"), ip("00 00 00 00")}, {ip(""), ip("")}} {
		wantAllowed(t, gens(c.g), nil, nil, true)
		wantAllowed(t, gens(c.g), nil, gens(c.base), true)
		wantAllowed(t, gens(c.g), gens(c.base), nil, false)
	}
	// an address of another size is bounded all the same
	wantAllowed(t, gens(ip("01 02 03 04")), gens(api.Gen{Kind: api.GenIp, Ip: make([]byte, 32)}), nil, false)
	wantAllowed(t, gens(ip("01 02 03 04")), nil, gens(api.Gen{Kind: api.GenIp, Ip: make([]byte, 32)}), true)
}

// P14.4: by chance, against the second writing.
func TestAllowedAgainstModel(t *testing.T) {
	r := rand.New(rand.NewSource(144))
	seen := map[bool]int{}
	for range 100000 {
		names, permitted, excluded := drawnGens(r, 3, false), drawnGens(r, 6, true), drawnGens(r, 3, true)
		asked := modelAllowed(names, permitted, excluded)
		wantAllowed(t, names, permitted, excluded, asked)
		if len(names) > 1 && len(permitted)+len(excluded) > 1 {
			seen[asked]++
		}
		if t.Failed() {
			return
		}
	}
	if seen[true] < 5000 || seen[false] < 5000 {
		t.Errorf("only %d were allowed, %d not", seen[true], seen[false])
	}
}
