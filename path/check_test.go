package path_test

import (
	"math"
	"slices"
	"strings"
	"testing"

	"chirograph/api"
)

// P16.3: what is said of a chain, clause by clause.

// everywhere asks what is said of lines of up to four certificates, of which one
// is changed: of one that issues, and of the leaf.
func everywhere(t *testing.T, what string, change func(c *api.Cert), ask api.Ask, issuer, leaf int) {
	t.Helper()
	for n := 1; n <= 4; n++ {
		for at := range n - 1 {
			wantLine(t, what, n, at, change, ask, issuer)
		}
		wantLine(t, what, n, n-1, change, ask, leaf)
	}
}

func TestGoodLines(t *testing.T) {
	for n := 1; n <= api.MaxPath; n++ {
		anchor, l := line(n)
		wantCheck(t, "a line", anchor, l, nil, asked(), api.Accept)
		wantCheck(t, "a line with lists", anchor, l, lists(n), asked(), api.Accept)
		ask := asked()
		ask.Hard = true
		wantCheck(t, "a line with lists for all", anchor, l, lists(n), ask, api.Accept)
	}
}

func TestNone(t *testing.T) {
	anchor, l := line(1)
	for _, ask := range []api.Ask{{}, asked(), {Hard: true, Use: "1.2", Only: true, Explicit: true}} {
		wantCheck(t, "no certificates", anchor, nil, nil, ask, api.PathNone)
		wantCheck(t, "no certificates", anchor, l[:0], lists(3), ask, api.PathNone)
		wantCheck(t, "no certificates", api.Cert{}, nil, nil, ask, api.PathNone)
	}
}

func TestSignatures(t *testing.T) {
	o := issue(other, other, 77)
	for _, change := range []func(c *api.Cert){
		func(c *api.Cert) { c.Sig = nil },
		func(c *api.Cert) { c.Sig = c.Sig[1:] },
		func(c *api.Cert) { c.Sig = o.Sig },
		func(c *api.Cert) { c.Tbs = o.Tbs },
		func(c *api.Cert) { c.Tbs = nil },
		func(c *api.Cert) { c.Tbs, c.Sig = o.Tbs, products[13].sign(o.Tbs) },
		func(c *api.Cert) { c.Way = api.Alg{} },
		func(c *api.Cert) { c.Way.Digest = api.Sha256 },
		func(c *api.Cert) { c.Way.Kind = api.AlgEcdsa },
		func(c *api.Cert) { c.Tbs = make([]byte, api.MaxTotal+1) },
	} {
		everywhere(t, "another signature", change, asked(), api.PathSig, api.PathSig)
	}
	for _, key := range []api.Key{{}, o.Key, {Curve: api.P256}} {
		everywhere(t, "another key", func(c *api.Cert) { c.Key = key }, asked(), api.PathSig, api.Accept)
		anchor, l := line(3)
		anchor.Key = key
		wantCheck(t, "another key of the anchor", anchor, l, nil, asked(), api.PathSig)
	}
}

// The signature counts, and what was signed, not who says to be the issuer.
func TestSignaturesAlone(t *testing.T) {
	change := func(c *api.Cert) {
		c.Issuer, c.Subject, c.Ski, c.Aki, c.Raw, c.Serial = org("x"), org("y"), []byte{1}, []byte{2}, nil, nil
	}
	everywhere(t, "other names", change, asked(), api.Accept, api.Accept)
	anchor, l := line(3)
	wantCheck(t, "in another order", anchor, certs(l[1], l[0], l[2]), nil, asked(), api.PathSig)
	wantCheck(t, "one twice", anchor, certs(l[0], l[0], l[1]), nil, asked(), api.PathSig)
	wantCheck(t, "without the first", anchor, l[1:], nil, asked(), api.PathSig)
	wantCheck(t, "of another anchor", l[0], l, nil, asked(), api.PathSig)
	wantCheck(t, "of the first as an anchor", l[0], l[1:], nil, asked(), api.Accept)
	own := issue(root, root, 9)
	wantCheck(t, "its own issuer, often", own, certs(own, own, own), nil, asked(), api.Accept)
}

// Of an anchor nothing else counts.
func TestAnchorsSayNothing(t *testing.T) {
	for _, change := range []func(c *api.Cert){
		func(c *api.Cert) { c.From = now + 1 },
		func(c *api.Cert) { c.Until = now - 1 },
		func(c *api.Cert) { c.Unknown = true },
		func(c *api.Cert) { c.Ca = false },
		func(c *api.Cert) { c.Below = 0 },
		func(c *api.Cert) { c.Usage = 0 },
		func(c *api.Cert) { c.Eku, c.EkuMust = []string{"1.2"}, true },
		func(c *api.Cert) { c.Excluded = []api.Gen{{Kind: api.GenDir}} },
		func(c *api.Cert) { c.Permitted = []api.Gen{{Kind: api.GenDir, Dir: org("no")}} },
		func(c *api.Cert) { c.Names = []api.Gen{{Kind: api.GenDns, Text: "no"}} },
		func(c *api.Cert) { c.Require, c.Inhibit, c.Policies = 0, 0, []string{"1.2.9"} },
		func(c *api.Cert) {
			c.Serial, c.Tbs, c.Sig, c.Way, c.Issuer, c.Aki = nil, nil, nil, api.Alg{}, nil, []byte{1}
		},
		func(c *api.Cert) { c.Subject, c.Raw, c.Ski = org("no"), nil, []byte{9} },
	} {
		anchor, l := line(3)
		ask := asked()
		ask.Hard = true
		change(&anchor)
		wantCheck(t, "whatever an anchor says", anchor, l, lists(3), ask, api.Accept)
	}
}

func TestTimes(t *testing.T) {
	for _, x := range []struct{ from, until, at, want int }{
		{100, 200, 100, api.Accept}, {100, 200, 99, api.PathTime}, {100, 200, 200, api.Accept}, {100, 200, 201, api.PathTime}, {100, 200, 150, api.Accept},
		{150, 150, 150, api.Accept}, {150, 150, 149, api.PathTime}, {150, 150, 151, api.PathTime}, {151, 149, 150, api.PathTime}, {151, 149, 151, api.PathTime}, {151, 149, 149, api.PathTime},
		{-200, -100, -150, api.Accept}, {-200, -100, -201, api.PathTime}, {-200, -100, -99, api.PathTime}, {-200, -100, 150, api.PathTime}, {0, 0, 0, api.Accept},
		{math.MinInt, math.MaxInt, math.MinInt, api.Accept}, {math.MinInt, math.MaxInt, math.MaxInt, api.Accept}, {math.MaxInt, math.MaxInt, math.MinInt, api.PathTime}, {math.MinInt, math.MinInt, math.MaxInt, api.PathTime},
	} {
		for n := 1; n <= 3; n++ {
			for at := range n {
				anchor, l := line(n)
				for i := range l {
					l[i].From, l[i].Until = math.MinInt, math.MaxInt
				}
				l[at].From, l[at].Until = x.from, x.until
				for _, clock := range []int{x.at, math.MinInt, 0, math.MaxInt} { // the clock's time plays no part
					wantCheck(t, "times", anchor, l, nil, api.Ask{At: x.at, Now: clock}, x.want)
				}
			}
		}
	}
}

func TestUnknown(t *testing.T) {
	everywhere(t, "an extension that is unknown", func(c *api.Cert) { c.Unknown = true }, asked(), api.PathExts, api.PathExts)
}

func TestCas(t *testing.T) {
	everywhere(t, "no ca", func(c *api.Cert) { c.Ca = false }, asked(), api.PathCa, api.Accept)
	everywhere(t, "a ca", func(c *api.Cert) { c.Ca = true }, asked(), api.Accept, api.Accept)
}

// There may be just MaxPath certificates.
func TestLongLines(t *testing.T) {
	for n := 1; n <= 12; n++ {
		anchor, l := line(n)
		want := api.Accept
		if n > api.MaxPath {
			want = api.PathLong
		}
		wantCheck(t, "a line", anchor, l, nil, asked(), want)
	}
	own := issue(root, root, 1)
	wantCheck(t, "just so many that are their own issuers", own, slices.Repeat(certs(own), api.MaxPath), nil, asked(), api.Accept)
	wantCheck(t, "too many that are their own issuers", own, slices.Repeat(certs(own), api.MaxPath+1), nil, asked(), api.PathLong)
	wantCheck(t, "far too many", own, slices.Repeat(certs(own), 2000), nil, asked(), api.PathLong)
}

// Below bounds how many stand between one and the leaf.
func TestBelow(t *testing.T) {
	for n := 1; n <= 5; n++ {
		for at := range n {
			for below := -3; below < 6; below++ {
				want := api.Accept
				if at < n-1 && below >= 0 && below < n-2-at {
					want = api.PathLong
				}
				wantLine(t, "below", n, at, func(c *api.Cert) { c.Below = below }, asked(), want)
			}
			wantLine(t, "below", n, at, func(c *api.Cert) { c.Below = math.MinInt }, asked(), api.Accept)
			wantLine(t, "below", n, at, func(c *api.Cert) { c.Below = math.MaxInt }, asked(), api.Accept)
		}
	}
}

// Those that are their own issuers do not count for it.
func TestBelowOwn(t *testing.T) {
	for places := range 1 << 5 {
		anchor, l := line(5)
		for i := range l {
			if places>>i&1 == 1 {
				l[i].Issuer = org(strings.ToUpper(said(l[i].Subject)) + " ")
			}
		}
		for at := range 4 {
			others := 0
			for i := at + 1; i < 4; i++ {
				others += 1 - places>>i&1
			}
			for below := range 5 {
				want := api.Accept
				if below < others {
					want = api.PathLong
				}
				wantCheck(t, "below", anchor, changed(l, at, func(c *api.Cert) { c.Below = below }), nil, asked(), want)
			}
		}
	}
}

func TestUsages(t *testing.T) {
	for usage := -5; usage < 512; usage++ {
		issuer, leaf := api.PathUsage, api.PathUsage
		if usage == -1 || usage&api.UseCertSign != 0 {
			issuer = api.Accept
		}
		if usage == -1 || usage&api.UseSign != 0 || usage&api.UseContent != 0 {
			leaf = api.Accept
		}
		for n := 1; n <= 3; n++ {
			for at := range n - 1 {
				wantLine(t, "usage", n, at, func(c *api.Cert) { c.Usage = usage }, asked(), issuer)
			}
			wantLine(t, "usage", n, n-1, func(c *api.Cert) { c.Usage = usage }, asked(), leaf)
		}
	}
}
