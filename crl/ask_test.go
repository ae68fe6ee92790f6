package crl_test

import (
	"bytes"
	"math"
	"math/rand"
	"slices"
	"testing"

	"chirograph/alg"
	"chirograph/api"
	"chirograph/crl"
)

// P13.3 and P13.4: what is asked of a list that is read.

func wantSigned(t *testing.T, what string, c api.Crl, k api.Key, asked api.Errno) {
	t.Helper()
	if e := crl.Signed(c, k); e != asked {
		t.Errorf("%s: Signed: error %d; wanted %d", what, e, asked)
	}
}

// Signed asks the fields, whoever told them.
func TestSigned(t *testing.T) {
	r := rand.New(rand.NewSource(131))
	k, another := newProduct(r), newProduct(r)
	text := []byte("whatever is signed")
	c := api.Crl{Way: api.Alg{Kind: api.AlgRsa, Digest: api.Sha1}, Tbs: text, Sig: k.sign(text)}
	wantSigned(t, "by the signer's key", c, k.key(), api.OK)
	wantSigned(t, "by another key", c, another.key(), api.ErrSig)
	wantSigned(t, "by a point", c, api.Key{Curve: api.P256}, api.ErrPair)
	for _, change := range []func(c *api.Crl){
		func(c *api.Crl) { c.Tbs = text[1:] },
		func(c *api.Crl) { c.Sig = c.Sig[1:] },
		func(c *api.Crl) { c.Tbs = nil },
		func(c *api.Crl) { c.Sig = nil },
	} {
		d := c
		change(&d)
		wantSigned(t, "changed", d, k.key(), api.ErrSig)
	}
	d := c
	d.Raw, d.Issuer, d.This, d.Open, d.Gone, d.Aki, d.Unknown = text, nameOf("2.5.4.6", "DE"), 7, true, []api.Gone{{}}, text, true
	wantSigned(t, "whatever else it says", d, k.key(), api.OK)
}

// Each error of alg.Verify is told.
func TestSignedErrors(t *testing.T) {
	r := rand.New(rand.NewSource(132))
	k := newProduct(r)
	text := []byte("x")
	told := map[api.Errno]int{}
	for kind := -1; kind < 5; kind++ {
		for digest := -1; digest < 6; digest++ {
			for _, key := range []api.Key{k.key(), {}, {Curve: api.P256}, {Curve: api.P384}, {Curve: 7}} {
				for _, tbs := range [][]byte{text, nil, make([]byte, api.MaxTotal+1)} {
					c := api.Crl{Way: api.Alg{Kind: kind, Digest: digest}, Tbs: tbs, Sig: k.sign(text)}
					asked := alg.Verify(key, c.Way, c.Tbs, c.Sig)
					wantSigned(t, "as alg.Verify", c, key, asked)
					told[asked]++
				}
			}
		}
	}
	for _, e := range []api.Errno{api.OK, api.ErrLong, api.ErrAlg, api.ErrPair, api.ErrSig} {
		if told[e] == 0 {
			t.Errorf("error %d was not told", e)
		}
	}
}

func TestFresh(t *testing.T) {
	for _, x := range []struct {
		this, next int
		open       bool
		at         int
		fresh      bool
	}{
		{5, 7, false, 4, false}, {5, 7, false, 5, true}, {5, 7, false, 6, true}, {5, 7, false, 7, true}, {5, 7, false, 8, false},
		{5, 7, true, 4, false}, {5, 7, true, 5, true}, {5, 7, true, 7, true}, {5, 7, true, 8, true}, {5, 0, true, 5, true}, {5, 0, true, math.MaxInt, true},
		{5, 5, false, 4, false}, {5, 5, false, 5, true}, {5, 5, false, 6, false},
		{7, 5, false, 5, false}, {7, 5, false, 6, false}, {7, 5, false, 7, false}, {5, 0, false, 5, false},
		{-7, -5, false, -8, false}, {-7, -5, false, -6, true}, {-7, -5, false, -4, false}, {-7, 0, false, 0, true}, {-7, 0, false, 1, false}, {0, 0, false, 0, true},
		{math.MinInt, math.MaxInt, false, math.MinInt, true}, {math.MinInt, math.MaxInt, false, math.MaxInt, true}, {math.MaxInt, math.MinInt, true, math.MaxInt, true}, {math.MaxInt, math.MinInt, true, math.MaxInt - 1, false}, {math.MinInt, math.MinInt, false, math.MaxInt, false},
	} {
		c := api.Crl{This: x.this, Next: x.next, Open: x.open}
		if fresh := crl.Fresh(c, x.at); fresh != x.fresh {
			t.Errorf("Fresh of %d, %d, open %v at %d: %v", x.this, x.next, x.open, x.at, fresh)
		}
	}
}

func wantFound(t *testing.T, c api.Crl, serial []byte, asked api.Gone, ok bool) {
	t.Helper()
	if g, found := crl.Find(c, serial); found != ok || !same(g, asked) {
		t.Errorf("Find(%x): %+v, %v; wanted %+v, %v", serial, g, found, asked, ok)
	}
}

func TestFind(t *testing.T) {
	l := []api.Gone{{Serial: []byte{1}, At: 5, Reason: 1}, {Serial: []byte{2}, At: 6, Reason: 2}, {Serial: []byte{1}, At: 7, Reason: 3}, {Serial: []byte{0, 0x80}, At: 8}, {Serial: []byte{1, 2, 3}, At: 9, Reason: 99}}
	c := api.Crl{Gone: l}
	wantFound(t, c, []byte{1}, l[0], true) // the first of two
	wantFound(t, c, []byte{2}, l[1], true)
	wantFound(t, c, []byte{0, 0x80}, l[3], true)
	wantFound(t, c, []byte{1, 2, 3}, l[4], true)
	for _, serial := range [][]byte{nil, {}, {0}, {3}, {0x80}, {0, 1}, {1, 0}, {1, 2}, {2, 3}, {1, 2, 3, 4}, {0, 0, 0x80}} {
		wantFound(t, c, serial, api.Gone{}, false)
	}
	wantFound(t, api.Crl{}, []byte{1}, api.Gone{}, false)
	wantFound(t, api.Crl{}, nil, api.Gone{}, false)
}

// Fields are asked, whoever told them: a serial may be empty, too.
func TestFindEmptySerials(t *testing.T) {
	for _, a := range [][]byte{nil, {}} {
		c := api.Crl{Gone: []api.Gone{{Serial: []byte{1}}, {Serial: a, At: 3}}}
		for _, b := range [][]byte{nil, {}} {
			wantFound(t, c, b, api.Gone{At: 3}, true)
		}
	}
}

// Whatever else the list says plays no part.
func TestFindAsksSerialsAlone(t *testing.T) {
	c := plainCrl()
	c.Gone = []api.Gone{{Serial: []byte{1}, At: math.MaxInt, Reason: -5}}
	c.Unknown, c.Open = true, true
	wantFound(t, c, []byte{1}, c.Gone[0], true)
}

func TestCounts(t *testing.T) {
	lists := [][]int{nil, {}, {4}, {1}, {1, 4}, {4, 1}, {4, 4}, {0}, {-4}, {5, 3}, {1, 2, 3, 5, 6, 8, 9, 10}}
	times := []int{math.MinInt, -6, -5, -4, -1, 0, 1, 4, 5, 6, math.MaxInt}
	for _, late := range lists {
		for _, reason := range []int{0, 1, 4, -4, 7, 99} {
			for _, gone := range times {
				for _, at := range times {
					asked := true
					for _, n := range late {
						if n == reason && gone > at {
							asked = false
						}
					}
					if got := crl.Counts(api.Gone{At: gone, Reason: reason}, at, late); got != asked {
						t.Errorf("Counts of {At %d, Reason %d} at %d, late %v: %v", gone, reason, at, late, got)
					}
				}
			}
		}
	}
}

// The examples.
func TestExamples(t *testing.T) {
	g := api.Gone{At: 5, Reason: 4}
	if crl.Counts(g, 4, []int{4}) || !crl.Counts(g, 4, []int{1}) || !crl.Counts(g, 5, []int{4}) {
		t.Error("Counts")
	}
	c := api.Crl{This: 5, Next: 7}
	if !crl.Fresh(c, 7) || crl.Fresh(c, 8) {
		t.Error("Fresh")
	}
}

// Whatever is listed is found: the first one of those that have its serial.
func TestListedIsFound(t *testing.T) {
	r := rand.New(rand.NewSource(133))
	for range 200 {
		var l [][]byte
		for range r.Intn(30) {
			l = append(l, entry(small(r.Intn(40) - 20)[2:], ext(21, reason(r.Intn(7)))))
		}
		c, e := crl.Parse(plain().listing(l...).bytes())
		if e != api.OK || len(c.Gone) != len(l) {
			t.Fatalf("error %d, %d entries", e, len(c.Gone))
		}
		for n := -25; n < 25; n++ {
			serial := small(n)[2:]
			at := slices.IndexFunc(c.Gone, func(g api.Gone) bool { return bytes.Equal(g.Serial, serial) })
			if at < 0 {
				wantFound(t, c, serial, api.Gone{}, false)
			} else {
				wantFound(t, c, serial, c.Gone[at], true)
			}
		}
	}
}
