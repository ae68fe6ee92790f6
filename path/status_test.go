package path_test

import (
	"math"
	"slices"
	"testing"

	"chirograph/api"
)

// P16.3, PathRevoked and PathStatus: which lists speak of one, and what they say.

func hard() api.Ask {
	ask := asked()
	ask.Hard = true
	return ask
}

// speaks asks whether a list speaks of the certificate at some place of a line
// of three: of what it tells something comes, and without it there is none.
func speaks(t *testing.T, what string, anchor api.Cert, l []api.Cert, at int, x api.Crl, is bool) {
	t.Helper()
	gone, silent := api.Accept, api.PathStatus
	if is {
		gone, silent = api.PathRevoked, api.Accept
	}
	others := lists(3)
	for i := range others {
		others[i].Gone = nil
	}
	others = slices.Delete(others, at, at+1)
	x.Gone = []api.Gone{goneBy(l[at], now)}
	wantCheck(t, what+", telling", anchor, l, crls(x), asked(), gone)
	wantCheck(t, what+", telling, among others", anchor, l, append(slices.Clone(others), x), asked(), gone)
	x.Gone = nil
	wantCheck(t, what+", telling nothing", anchor, l, crls(x), asked(), api.Accept)
	wantCheck(t, what+", telling nothing, hard", anchor, l, append(crls(x), others...), hard(), silent)
}

func TestWhichListsSpeak(t *testing.T) {
	for at := range 3 {
		for _, x := range []struct {
			what   string
			change func(c *api.Crl)
			is     bool
		}{
			{"a list", func(c *api.Crl) {}, true},
			{"an unknown extension", func(c *api.Crl) { c.Unknown = true }, false},
			{"another issuer", func(c *api.Crl) { c.Issuer = org("no") }, false},
			{"no issuer", func(c *api.Crl) { c.Issuer = nil }, false},
			{"the issuer, in another way", func(c *api.Crl) { c.Issuer = org("  RANK  " + said(c.Issuer)[5:]) }, true},
			{"not yet", func(c *api.Crl) { c.This = now + 1 }, false},
			{"just now", func(c *api.Crl) { c.This, c.Next = now, now }, true},
			{"no more", func(c *api.Crl) { c.Next = now - 1 }, false},
			{"no more, but open", func(c *api.Crl) { c.Next, c.Open = now-1, true }, true},
			{"not yet, but open", func(c *api.Crl) { c.This, c.Open = now+1, true }, false},
			{"another signature", func(c *api.Crl) { c.Sig = c.Sig[1:] }, false},
			{"no signature", func(c *api.Crl) { c.Sig = nil }, false},
			{"another text", func(c *api.Crl) { c.Tbs = []byte("x") }, false},
			{"another way", func(c *api.Crl) { c.Way.Digest = api.Sha256 }, false},
			{"signed by the leaf", func(c *api.Crl) { c.Sig = products[3].sign(c.Tbs) }, false},
			{"signed by another one", func(c *api.Crl) { c.Sig = products[9].sign(c.Tbs) }, false},
			{"marks that play no part", func(c *api.Crl) { c.Aki, c.Raw = []byte{1}, nil }, true},
		} {
			anchor, l := line(3)
			c := list(rank(at), at)
			x.change(&c)
			speaks(t, x.what, anchor, l, at, c, x.is)
		}
	}
}

// The one above must be one that may sign lists, unless it is the anchor.
func TestWhoMaySignLists(t *testing.T) {
	for at := range 3 {
		for usage := -2; usage < 256; usage++ {
			if usage >= 0 && usage&api.UseCertSign == 0 && at > 0 {
				continue // PathUsage
			}
			anchor, l := line(3)
			if at == 0 {
				anchor.Usage = usage
			} else {
				l[at-1].Usage = usage
			}
			speaks(t, "usage", anchor, l, at, list(rank(at), at), at == 0 || usage == -1 || usage&api.UseCrlSign != 0)
		}
	}
}

// A list speaks of what the one above signed as that one's name: it is held
// against the certificate's issuer, not against the subject of the one above.
func TestListsByIssuers(t *testing.T) {
	anchor, l := line(3)
	l[1].Issuer = org("Nobody")
	speaks(t, "the issuer's", anchor, l, 1, list(party{"nobody", 1}, 1), true)
	speaks(t, "the one's above", anchor, l, 1, list(rank(1), 1), false)
	speaks(t, "signed by the anchor", anchor, l, 1, list(party{"nobody", 0}, 1), false)
}

// One list may speak of two: by the same key and the same name.
func TestOneListForAll(t *testing.T) {
	own := issue(root, root, 1)
	below, leaf := issue(root, root, 2), issue(root, end, 3)
	chain := certs(below, leaf)
	all := list(root, 4)
	wantCheck(t, "one for all", own, chain, crls(all), hard(), api.Accept)
	for _, c := range chain {
		all.Gone = []api.Gone{goneBy(c, now)}
		wantCheck(t, "one for all", own, chain, crls(all), hard(), api.PathRevoked)
	}
	all.Gone = []api.Gone{goneBy(own, now)}
	wantCheck(t, "the anchor itself", own, chain, crls(all), hard(), api.Accept)
}

// Of one name with two keys each list speaks of those just that the same key
// signed.
func TestListsOfTwoKeys(t *testing.T) {
	anew := party{root.name, 9}
	anchor, below, leaf := issue(root, root, 1), issue(root, anew, 2), issue(anew, end, 3)
	chain := certs(below, leaf)
	old, young := list(root, 4), list(anew, 5)
	wantCheck(t, "lists of both", anchor, chain, crls(old, young), hard(), api.Accept)
	wantCheck(t, "lists of both", anchor, chain, crls(young, old), hard(), api.Accept)
	wantCheck(t, "a list of the old key", anchor, chain, crls(old), hard(), api.PathStatus)
	wantCheck(t, "a list of the new key", anchor, chain, crls(young), hard(), api.PathStatus)
	for _, gone := range chain {
		for _, x := range []api.Crl{old, young} {
			want := api.Accept
			if (string(gone.Raw) == string(below.Raw)) == (string(x.Raw) == string(old.Raw)) {
				want = api.PathRevoked
			}
			x.Gone = []api.Gone{goneBy(gone, now)}
			wantCheck(t, "a list of one of both", anchor, chain, crls(x), asked(), want)
			wantCheck(t, "lists of both", anchor, chain, crls(old, young, x), hard(), want)
		}
	}
	all := list(anew, 6, goneBy(below, now), goneBy(leaf, now))
	wantCheck(t, "a list that tells of both", anchor, certs(below), crls(all), asked(), api.Accept)
	wantCheck(t, "a list that tells of both", anchor, chain, crls(all), asked(), api.PathRevoked)
}

// Serials are held against one another byte by byte.
func TestSerials(t *testing.T) {
	anchor, l := line(2)
	for _, x := range []struct {
		serial, gone []byte
		want         int
	}{
		{[]byte{5}, []byte{5}, api.PathRevoked}, {[]byte{5}, []byte{0, 5}, api.Accept}, {[]byte{0, 5}, []byte{5}, api.Accept}, {[]byte{5, 6}, []byte{5}, api.Accept}, {[]byte{5}, []byte{5, 6}, api.Accept},
		{nil, []byte{}, api.PathRevoked}, {nil, []byte{0}, api.Accept}, {[]byte{}, nil, api.PathRevoked}, {[]byte{0xff}, []byte{0}, api.Accept},
	} {
		for at := range 2 {
			m := changed(l, at, func(c *api.Cert) { c.Serial = x.serial })
			c := list(rank(at), at, api.Gone{Serial: []byte{9}}, api.Gone{Serial: x.gone}, api.Gone{Serial: []byte{8}})
			wantCheck(t, "serials", anchor, m, crls(c), asked(), x.want)
			wantCheck(t, "serials of another one", anchor, m, crls(list(rank(1-at), 1-at, c.Gone...)), asked(), api.Accept)
		}
	}
}

// All that has the serial is asked whether it counts, not the first one alone.
func TestWhichCount(t *testing.T) {
	anchor, l := line(1)
	late := []int{4, 5}
	gone := func(at, reason int) api.Gone { return api.Gone{Serial: l[0].Serial, At: at, Reason: reason} }
	for _, x := range []struct {
		gone []api.Gone
		want int
	}{
		{nil, api.Accept}, {[]api.Gone{gone(now, 4)}, api.PathRevoked}, {[]api.Gone{gone(now+1, 4)}, api.Accept}, {[]api.Gone{gone(now+1, 1)}, api.PathRevoked}, {[]api.Gone{gone(now-1, 5)}, api.PathRevoked},
		{[]api.Gone{gone(now+1, 4), gone(now+1, 5)}, api.Accept}, {[]api.Gone{gone(now+1, 4), gone(now, 4)}, api.PathRevoked}, {[]api.Gone{gone(now+1, 4), gone(now+1, 0)}, api.PathRevoked},
		{[]api.Gone{gone(now+1, 0), gone(now+1, 4)}, api.PathRevoked}, {[]api.Gone{gone(math.MaxInt, 6)}, api.PathRevoked}, {[]api.Gone{gone(math.MaxInt, 5)}, api.Accept},
	} {
		for _, clock := range []int{from, now, until} { // the time of asking counts, not the clock's
			ask := api.Ask{At: now, Now: clock, Late: late}
			wantCheck(t, "which count", anchor, l, crls(list(rank(0), 0, x.gone...)), ask, x.want)
			one, two := list(rank(0), 0), list(rank(0), 1, x.gone...)
			wantCheck(t, "which count, in the second list", anchor, l, crls(one, two), ask, x.want)
			wantCheck(t, "which count, in the first list", anchor, l, crls(two, one), ask, x.want)
		}
	}
}

// Lists are of the clock's time, whatever time is asked of.
func TestListsOfNow(t *testing.T) {
	anchor, l := line(1)
	for _, x := range []struct{ at, now, want int }{
		{now, now, api.PathRevoked}, {now, until, api.PathRevoked}, {now, until + 1, api.Accept}, {now, from, api.PathRevoked}, {now, from - 1, api.Accept}, {from, until, api.PathRevoked}, {until, math.MaxInt, api.Accept},
	} {
		c := list(rank(0), 0, goneBy(l[0], from))
		wantCheck(t, "of now", anchor, l, crls(c), api.Ask{At: x.at, Now: x.now}, x.want)
	}
}

// If it is asked hard, each one must be spoken of.
func TestHard(t *testing.T) {
	for n := 1; n <= 4; n++ {
		anchor, l := line(n)
		for have := range 1 << n {
			var some []api.Crl
			for i, c := range lists(n) {
				if have>>i&1 == 1 {
					some = append(some, c)
				}
			}
			want := api.PathStatus
			if have == 1<<n-1 {
				want = api.Accept
			}
			wantCheck(t, "hard", anchor, l, some, hard(), want)
			wantCheck(t, "not hard", anchor, l, some, asked(), api.Accept)
			slices.Reverse(some)
			wantCheck(t, "hard", anchor, l, append(some, some...), hard(), want)
		}
	}
}

// Check bounds no lists.
func TestManyLists(t *testing.T) {
	anchor, l := line(2)
	many := slices.Repeat(crls(list(rank(7), 9)), 5*api.MaxCrls)
	gone := list(rank(1), 1, goneBy(l[1], now))
	wantCheck(t, "many", anchor, l, append(many, lists(2)...), hard(), api.Accept)
	wantCheck(t, "many", anchor, l, append(append(many, lists(2)...), gone), hard(), api.PathRevoked)
}
