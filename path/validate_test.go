package path_test

import (
	"slices"
	"testing"

	"chirograph/api"
)

// P16.4

func TestValidate(t *testing.T) {
	r, i, s, l := issue(root, root, 1), issue(root, inter, 2), issue(inter, sub, 3), issue(sub, end, 4)
	o := issue(other, other, 5)
	wantValidate(t, "a path", l, certs(r), certs(i, s), nil, asked(), api.Accept, 0, 0, 1)
	wantValidate(t, "a path among others", l, certs(o, r), certs(o, s, l, i), nil, asked(), api.Accept, 1, 3, 1)
	wantValidate(t, "by the anchor", i, certs(o, r), nil, nil, asked(), api.Accept, 1)
	wantValidate(t, "no anchors", l, nil, certs(i, s), nil, asked(), api.PathNone)
	wantValidate(t, "other anchors", l, certs(o), certs(i, s), nil, asked(), api.PathNone)
	wantValidate(t, "one lacks", l, certs(r), certs(s), nil, asked(), api.PathNone)
	wantValidate(t, "nothing", api.Cert{}, nil, nil, nil, api.Ask{}, api.PathNone)
	wantValidate(t, "nothing by nothing", api.Cert{}, certs(api.Cert{}), nil, nil, api.Ask{}, api.PathSig)
	wantValidate(t, "too late", l, certs(r), certs(i, s), nil, api.Ask{At: until + 1}, api.PathTime)
}

// The example.
func TestExample(t *testing.T) {
	r, l := issue(root, root, 1), issue(root, end, 2)
	wantValidate(t, "by the anchor", l, certs(r), nil, nil, asked(), api.Accept, 0)
	wantValidate(t, "without anchors", l, nil, nil, nil, asked(), api.PathNone)
	wantValidate(t, "hard", l, certs(r), nil, nil, hard(), api.PathStatus)
}

// Each number that Check tells of a chain is told, and no chain beside it.
func TestValidateFaults(t *testing.T) {
	for _, x := range faults {
		anchor, l := line(3)
		ask := asked()
		var lists []api.Crl
		x.make(&anchor, l, &lists, &ask)
		wantValidate(t, "a fault", l[2], certs(anchor), l[:2], lists, ask, x.number)
	}
}

// between are as many as there are faults, each with one of them, and one with
// none last; all were issued by the anchor, and issued the leaf.
func between() (anchor api.Cert, l []api.Cert, leaf api.Cert, gone []api.Crl) {
	anchor, leaf = issue(root, root, 1), issue(inter, end, 2)
	for i := range 7 {
		l = append(l, issue(root, inter, 10+i))
	}
	l[0].Sig = nil
	l[1].From = now + 1
	l[2].Unknown = true
	l[3].Ca = false
	l[4].Usage = 0
	l[5].Excluded = gens(dir("End"))
	return anchor, l, leaf, crls(list(root, 20))
}

// The greatest number of all chains is told, if none is accepted; else the first
// one that is, in the order of the chains.
func TestGreatestNumber(t *testing.T) {
	anchor, l, leaf, gone := between()
	numbers := []int{api.PathSig, api.PathTime, api.PathExts, api.PathCa, api.PathUsage, api.PathNames, api.Accept}
	for some := 1; some < 1<<len(l); some++ {
		var rest []api.Cert
		worst, good := 0, -1
		for i := range l {
			if some>>i&1 == 1 {
				worst = max(worst, numbers[i])
				if numbers[i] == api.Accept {
					good = len(rest)
				}
				rest = append(rest, l[i])
			}
		}
		if good >= 0 {
			wantValidate(t, "one that is good", leaf, certs(anchor), rest, gone, asked(), api.Accept, 0, good)
			continue
		}
		wantValidate(t, "none that is good", leaf, certs(anchor), rest, gone, asked(), worst)
		slices.Reverse(rest)
		wantValidate(t, "none that is good, turned round", leaf, certs(anchor), rest, gone, asked(), worst)
	}
}

func TestFirstAccepted(t *testing.T) {
	anchor, l, leaf, _ := between()
	good := []api.Cert{l[6], issue(root, inter, 30), issue(root, inter, 31)}
	wantValidate(t, "three that are good", leaf, certs(anchor), good, nil, asked(), api.Accept, 0, 0)
	wantValidate(t, "behind others", leaf, certs(anchor), append(slices.Clone(l[:6]), good...), nil, asked(), api.Accept, 0, 6)
	wantValidate(t, "behind another anchor", leaf, certs(issue(party{"Root", 9}, root, 40), anchor), good[1:], nil, asked(), api.Accept, 0, 0)
	stranger := issue(root, root, 41)
	stranger.Key = products[9].key()
	wantValidate(t, "behind an anchor of another key", leaf, certs(stranger, anchor), good[1:], nil, asked(), api.Accept, 1, 0)
	own := issue(inter, inter, 42)
	wantValidate(t, "the shorter of two", leaf, certs(anchor), certs(good[0], own), nil, asked(), api.Accept, 0, 0)
	wantValidate(t, "the first of two, though it is longer", leaf, certs(anchor), certs(l[0], own, good[0]), nil, asked(), api.Accept, 0, 2)
	good[0].Below, own.Issuer = 0, org("Inter")
	wantValidate(t, "one twice", leaf, certs(anchor, anchor), certs(good[0], good[0]), nil, asked(), api.Accept, 0, 0)
}

// A longer chain may come ahead of a shorter one, if its numbers do.
func TestLongerAhead(t *testing.T) {
	r, i := issue(root, root, 1), issue(root, inter, 2)
	cross, direct := issue(inter, sub, 3), issue(root, sub, 4)
	l := issue(sub, end, 5)
	wantValidate(t, "longer ahead", l, certs(r), certs(i, direct, cross), nil, asked(), api.Accept, 0, 0, 2)
	wantValidate(t, "longer behind", l, certs(r), certs(direct, i, cross), nil, asked(), api.Accept, 0, 0)
	wantValidate(t, "longer ahead, but wrong", l, certs(r), changed(certs(i, direct, cross), 0, func(c *api.Cert) { c.Ca = false }), nil, asked(), api.Accept, 0, 1)
	wantValidate(t, "both wrong", l, certs(r), certs(i, direct, cross), nil, hard(), api.PathStatus)
	bad := changed(certs(i, direct, cross), 0, func(c *api.Cert) { c.Ca = false })
	wantValidate(t, "both wrong, each otherwise", l, certs(r), changed(bad, 1, func(c *api.Cert) { c.From = now + 1 }), nil, asked(), api.PathCa)
	wantValidate(t, "both wrong, each otherwise", l, certs(r), changed(bad, 1, func(c *api.Cert) { c.Usage = 0 }), nil, asked(), api.PathUsage)
}

// Whether what stands above may sign lists is asked of it where it stands: as an
// anchor it need not say so.
func TestAnchorsSignLists(t *testing.T) {
	r, i, l := issue(root, root, 1), issue(root, inter, 2), issue(inter, end, 3)
	i.Usage = api.UseCertSign
	gone := list(inter, 4, goneBy(l, now))
	wantValidate(t, "not an anchor", l, certs(r), certs(i), crls(gone), asked(), api.Accept, 0, 0)
	wantValidate(t, "an anchor", l, certs(i), nil, crls(gone), asked(), api.PathRevoked)
	wantValidate(t, "an anchor in one chain", l, certs(i, r), certs(i), crls(gone), asked(), api.Accept, 1, 0)
	i.Usage |= api.UseCrlSign
	wantValidate(t, "both", l, certs(i, r), certs(i), crls(gone), asked(), api.PathRevoked)
}

func TestTooManyLists(t *testing.T) {
	r, l := issue(root, root, 1), issue(root, end, 2)
	many := slices.Repeat(crls(list(root, 3)), api.MaxCrls)
	wantValidate(t, "as many as may be", l, certs(r), nil, many, hard(), api.Accept, 0)
	wantValidate(t, "one more", l, certs(r), nil, append(many, many[0]), hard(), api.PathMany)
	wantValidate(t, "one more, without a chain", l, nil, nil, append(many, many[0]), hard(), api.PathMany)
	wantValidate(t, "one more, of nothing", api.Cert{}, nil, nil, make([]api.Crl, api.MaxCrls+1), api.Ask{}, api.PathMany)
	wantValidate(t, "as many as may be, without a chain", l, nil, nil, many, hard(), api.PathNone)
}

func TestTooManyForValidate(t *testing.T) {
	r, l := issue(root, root, 1), issue(inter, end, 2)
	rest := crowd(root, inter, api.MaxCerts, 3)
	anchors := crowd(root, root, api.MaxChains/api.MaxCerts, 4)
	wantValidate(t, "as many chains as may be", l, anchors, rest, nil, asked(), api.Accept, 0, 0)
	wantValidate(t, "as many chains as may be, all wrong", l, anchors, rest, nil, hard(), api.PathStatus)
	wantValidate(t, "one chain more", l, append(anchors, issue(other, inter, 5)), rest, nil, asked(), api.PathMany)
	wantValidate(t, "one more at hand", l, certs(r), append(rest, rest[0]), nil, asked(), api.PathMany)
	wantValidate(t, "one more anchor", l, crowd(root, root, api.MaxCerts+1, 6), nil, nil, asked(), api.PathMany)
}
