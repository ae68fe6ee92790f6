package path_test

import (
	"cmp"
	"fmt"
	"math/rand"
	"slices"
	"strings"
	"testing"

	"chirograph/api"
	"chirograph/path"
	"chirograph/policy"
	"chirograph/realm"
)

// The chapter written a second time: all rows of certificates there are, each
// held against what makes one a chain; all clauses of one, each for itself; and
// who signed what, by what is known of those who did.

func sameName(a, b [][]api.Atv) bool {
	tidy := func(n [][]api.Atv) string { return strings.ToLower(strings.TrimSpace(said(n))) }
	return len(a) == len(b) && tidy(a) == tidy(b)
}

// signedBy tells by which key, by its number, a text was signed; -1 by none.
func signedBy(text, sig []byte) int {
	return slices.IndexFunc(products, func(k product) bool { return string(k.sign(text)) == string(sig) })
}

// signers keeps what signedBy told.
type signers map[string]int

func (s signers) is(text, sig []byte, k api.Key) bool {
	at := string(text) + "/" + string(sig)
	if _, ok := s[at]; !ok {
		s[at] = signedBy(text, sig)
	}
	return s[at] >= 0 && slices.Equal(products[s[at]].key().Rsa.N, k.Rsa.N)
}

func mayIssue(up, low *api.Cert) bool {
	marked := len(up.Ski) > 0 && len(low.Aki) > 0
	return sameName(up.Subject, low.Issuer) && !(marked && string(up.Ski) != string(low.Aki))
}

// isChain asks all that P16.1 asks of an anchor, certificates between, and a leaf.
func isChain(row []int, leaf *api.Cert, anchors, rest []api.Cert) bool {
	all := []*api.Cert{&anchors[row[0]]}
	for _, at := range row[1:] {
		all = append(all, &rest[at])
	}
	all = append(all, leaf)
	for i := range all[1:] {
		if !mayIssue(all[i], all[i+1]) {
			return false
		}
		for j := range i + 1 {
			if j > 0 && string(all[j].Raw) == string(all[i+1].Raw) {
				return false
			}
		}
	}
	for _, at := range row[1:] {
		if isAhead(rest, at) {
			return false
		}
	}
	return !isAhead(anchors, row[0]) && len(all)-1 <= api.MaxPath
}

// isAhead: does one ahead of another one in its list have its Raw?
func isAhead(l []api.Cert, at int) bool {
	for i := range l[:at] {
		if string(l[i].Raw) == string(l[at].Raw) {
			return true
		}
	}
	return false
}

// modelChains holds all rows of up to so many against what makes a chain.
func modelChains(leaf api.Cert, anchors, rest []api.Cert) [][]int {
	var found [][]int
	var rows func(row []int)
	rows = func(row []int) {
		if isChain(row, &leaf, anchors, rest) {
			found = append(found, slices.Clone(row))
		}
		for i := range rest {
			if !slices.Contains(row[1:], i) {
				rows(append(slices.Clone(row), i))
			}
		}
	}
	for i := range anchors {
		rows([]int{i})
	}
	slices.SortFunc(found, func(a, b []int) int { return cmp.Compare(digits(a), digits(b)) })
	return found
}

func digits(l []int) (s string) {
	for _, n := range l {
		s += fmt.Sprintf("%04d", n)
	}
	return s
}

// clauses tells every number whose clause holds of a chain.
func clauses(s signers, anchor api.Cert, chain []api.Cert, crls []api.Crl, ask api.Ask) map[int]bool {
	holds := map[int]bool{}
	last := len(chain) - 1
	for i, c := range chain {
		up := anchor
		if i > 0 {
			up = chain[i-1]
		}
		said := func(bit int) bool { return c.Usage == -1 || c.Usage&bit == bit }
		holds[api.PathSig] = holds[api.PathSig] || !s.is(c.Tbs, c.Sig, up.Key)
		holds[api.PathTime] = holds[api.PathTime] || c.From > ask.At || c.Until < ask.At
		holds[api.PathExts] = holds[api.PathExts] || c.Unknown
		holds[api.PathCa] = holds[api.PathCa] || i < last && !c.Ca
		holds[api.PathLong] = holds[api.PathLong] || last >= api.MaxPath || i < last && c.Below >= 0 && c.Below < countOthers(chain[i+1:last])
		holds[api.PathUsage] = holds[api.PathUsage] || i < last && !said(api.UseCertSign) || i == last && !said(api.UseSign) && !said(api.UseContent)
		for _, bounds := range chain[:i] {
			if i == last || !sameName(c.Issuer, c.Subject) {
				holds[api.PathNames] = holds[api.PathNames] || !realm.Allowed(realm.Names(c), bounds.Permitted, bounds.Excluded)
			}
		}
		spoken := false
		for _, x := range crls {
			maySign := i == 0 || up.Usage == -1 || up.Usage&api.UseCrlSign != 0
			if x.Unknown || !sameName(x.Issuer, c.Issuer) || x.This > ask.Now || !x.Open && x.Next < ask.Now || !maySign || !s.is(x.Tbs, x.Sig, up.Key) {
				continue
			}
			spoken = true
			for _, g := range x.Gone {
				later := g.At > ask.At && slices.Contains(ask.Late, g.Reason)
				holds[api.PathRevoked] = holds[api.PathRevoked] || string(g.Serial) == string(c.Serial) && !later
			}
		}
		holds[api.PathStatus] = holds[api.PathStatus] || ask.Hard && !spoken
	}
	leaf := chain[last]
	_, ok := policy.Run(chain, ask.User, ask.Explicit, ask.Inhibit)
	holds[api.PathPolicy] = !ok
	if ask.Only {
		holds[api.PathUse] = ask.Use != "" && !(leaf.EkuMust && slices.Equal(leaf.Eku, []string{ask.Use}))
	} else {
		fits := func(s string) bool { return s == ask.Use || s == api.AnyUse }
		holds[api.PathUse] = ask.Use != "" && len(leaf.Eku) > 0 && !slices.ContainsFunc(leaf.Eku, fits)
	}
	return holds
}

func countOthers(l []api.Cert) (n int) {
	for _, c := range l {
		if !sameName(c.Issuer, c.Subject) {
			n++
		}
	}
	return n
}

func modelCheck(s signers, anchor api.Cert, chain []api.Cert, crls []api.Crl, ask api.Ask) int {
	if len(chain) == 0 {
		return api.PathNone
	}
	holds := clauses(s, anchor, chain, crls, ask)
	for n := api.PathSig; n <= api.PathStatus; n++ {
		if holds[n] {
			return n
		}
	}
	return api.Accept
}

func modelValidate(s signers, leaf api.Cert, anchors, rest []api.Cert, rows [][]int, crls []api.Crl, ask api.Ask) (int, []int) {
	worst := api.PathNone
	for _, row := range rows {
		var chain []api.Cert
		for _, at := range row[1:] {
			chain = append(chain, rest[at])
		}
		n := modelCheck(s, anchors[row[0]], append(chain, leaf), crls, ask)
		if n == api.Accept {
			return n, row
		}
		worst = max(worst, n)
	}
	return worst, nil
}

// scene is all that Validate is asked.
type scene struct {
	leaf          api.Cert
	anchors, rest []api.Cert
	crls          []api.Crl
	ask           api.Ask
}

func (s scene) String() string {
	out := fmt.Sprintf("leaf %s; anchors %s; certs %s; ask %+v; lists", shown(s.leaf), shown(s.anchors...), shown(s.rest...), s.ask)
	for _, c := range s.crls {
		out += fmt.Sprintf(" {%q by %q, %d until %d, unknown %v, gone %v}", c.Raw, said(c.Issuer), c.This, c.Next, c.Unknown, c.Gone)
	}
	return out[:min(len(out), 4000)]
}

// drawn things are of few names and keys, so that much fits, and most of it is
// good, so that chains are, too.

func drawnParty(r *rand.Rand) party {
	n := r.Intn(4)
	p := party{[]string{"a", "b", "c", "d"}[n], n}
	if seldom(r, 12) {
		p.key = r.Intn(4)
	}
	return p
}

func drawnGens(r *rand.Rand) []api.Gen {
	var l []api.Gen
	for range 1 + r.Intn(2) {
		l = append(l, pick(r, dns("x"), dns("a.x"), dns("y"), mail("x"), mail("p@x"), dir("a"), dir("B"), dir("c")))
	}
	return l
}

func drawnCert(r *rand.Rand, mark int) api.Cert {
	by, to := drawnParty(r), drawnParty(r)
	c := issue(by, to, mark)
	for range 1 + r.Intn(2) {
		drawnChange(r, &c)
	}
	return c
}

func drawnChange(r *rand.Rand, c *api.Cert) {
	switch r.Intn(28) {
	case 0:
		c.From = now + r.Intn(2)
	case 1:
		c.Until = now - r.Intn(2)
	case 2:
		c.Unknown = seldom(r, 2)
	case 3:
		c.Ca = seldom(r, 2)
	case 4, 5, 22, 23, 24, 25:
		c.Below = pick(r, -1, 0, 0, 1)
	case 6, 7:
		c.Usage = pick(r, -1, 0, 1, 2, 32, 33, 34, 96, 97, 98, 127, -2)
	case 8, 9:
		c.Names = drawnGens(r)
	case 10:
		c.Permitted = drawnGens(r)
	case 11:
		c.Excluded = drawnGens(r)
	case 12:
		c.Require, c.Inhibit = r.Intn(4)-1, r.Intn(4)-1
	case 13, 14:
		c.Policies = pick(r, oids("1.2.3"), oids("1.2.4", "1.2.3"), oids(api.AnyPolicy))
	case 15, 16:
		c.Eku, c.EkuMust = pick(r, oids("1.5"), oids("1.6"), oids("1.6", "1.5"), oids(api.AnyUse)), seldom(r, 2)
	case 17:
		c.Ski = []byte(pick(r, "", "s", "t"))
	case 18:
		c.Aki = []byte(pick(r, "", "s", "t"))
	case 19:
		c.Sig = slices.Concat(c.Sig[1:], c.Sig[:1])
	case 20:
		c.Issuer = org(strings.ToUpper(said(c.Issuer)) + " ")
	case 21:
		c.Serial = []byte{7}
	}
}

func drawnCerts(r *rand.Rand, most, mark int, like ...api.Cert) []api.Cert {
	var l []api.Cert
	for i := range r.Intn(most + 1) {
		c := drawnCert(r, mark+i)
		if all := append(slices.Clone(l), like...); len(all) > 0 && seldom(r, 12) {
			c.Raw = pick(r, all...).Raw
		} else if len(all) > 0 && seldom(r, 12) {
			c = pick(r, all...)
		}
		l = append(l, c)
	}
	return l
}

func drawnList(r *rand.Rand, mark int, of []api.Cert) api.Crl {
	c := list(drawnParty(r), mark)
	for range r.Intn(3) {
		c.Gone = append(c.Gone, api.Gone{Serial: pick(r, of...).Serial, At: now + r.Intn(3) - 1, Reason: r.Intn(3)})
	}
	switch r.Intn(12) {
	case 0:
		c.This = now + r.Intn(2)
	case 1:
		c.Next = now - r.Intn(2)
	case 2:
		c.Next, c.Open = now-1, true
	case 3:
		c.Unknown = true
	case 4:
		c.Sig = slices.Concat(c.Sig[1:], c.Sig[:1])
	}
	return c
}

func drawnAsk(r *rand.Rand) api.Ask {
	ask := api.Ask{At: now, Now: now, Hard: seldom(r, 3), Explicit: seldom(r, 5), Inhibit: seldom(r, 5), Only: seldom(r, 3)}
	if seldom(r, 5) {
		ask.At += r.Intn(3) - 1
	}
	if seldom(r, 3) {
		ask.Use = pick(r, "1.5", "1.6", api.AnyUse)
	}
	if seldom(r, 3) {
		ask.User = pick(r, oids("1.2.3"), oids("1.2.4"), oids(api.AnyPolicy))
	}
	if seldom(r, 2) {
		ask.Late = pick(r, []int{1}, []int{2, 1}, []int{0})
	}
	return ask
}

func drawnScene(r *rand.Rand, anchors, rest int) scene {
	s := scene{leaf: drawnCert(r, 0), ask: drawnAsk(r)}
	s.anchors = drawnCerts(r, anchors, 10, s.leaf)
	s.rest = drawnCerts(r, rest, 30, append(slices.Clone(s.anchors), s.leaf)...)
	all := slices.Concat(certs(s.leaf), s.anchors, s.rest)
	for i := range r.Intn(6) {
		s.crls = append(s.crls, drawnList(r, i, all))
	}
	return s
}

// Chains and Validate, of what is drawn.
func TestAgainstModel(t *testing.T) {
	r := rand.New(rand.NewSource(162))
	known, told, chains := signers{}, map[int]int{}, 0
	for range 6000 {
		s := drawnScene(r, 4, 5)
		want := modelChains(s.leaf, s.anchors, s.rest)
		n, chain := modelValidate(known, s.leaf, s.anchors, s.rest, want, s.crls, s.ask)
		if len(want) > api.MaxChains {
			wantMany(t, "too many", s.leaf, s.anchors, s.rest)
			want, n, chain = nil, api.PathMany, nil
		} else {
			wantChains(t, "what is drawn", s.leaf, s.anchors, s.rest, want...)
		}
		wantValidate(t, "what is drawn", s.leaf, s.anchors, s.rest, s.crls, s.ask, n, chain...)
		told[n]++
		chains += len(want)
		if t.Failed() {
			t.Fatal(s)
		}
	}
	for n := api.PathNone; n <= api.PathStatus; n++ {
		if told[n] < 5 {
			t.Errorf("%d was told %d times", n, told[n])
		}
	}
	if told[api.Accept] < 300 || chains < 5000 {
		t.Errorf("%d were accepted, of %d chains", told[api.Accept], chains)
	}
}

// Check, of rows that need not be chains.
func TestCheckAgainstModel(t *testing.T) {
	r := rand.New(rand.NewSource(163))
	known, told := signers{}, map[int]int{}
	for range 15000 {
		s := drawnScene(r, 1, 5)
		anchor, chain := s.leaf, s.rest
		if seldom(r, 2) {
			anchor, chain = drawnLine(r)
		}
		want := modelCheck(known, anchor, chain, s.crls, s.ask)
		if n := path.Check(anchor, chain, s.crls, s.ask); n != want {
			t.Fatalf("Check: %d; wanted %d; anchor %s, chain %s of %s", n, want, shown(anchor), shown(chain...), s)
		}
		told[want]++
	}
	for n := api.PathNone; n <= api.PathStatus; n++ {
		if told[n] < 10 {
			t.Errorf("%d was told %d times", n, told[n])
		}
	}
	if told[api.Accept] < 1000 {
		t.Errorf("%d were accepted", told[api.Accept])
	}
}

// drawnLine is one in which each signed the next, with changes.
func drawnLine(r *rand.Rand) (api.Cert, []api.Cert) {
	parties := []party{{"a", 0}, {"b", 1}, {"c", 2}, {"d", 3}}
	by := pick(r, parties...)
	anchor := issue(by, by, 20)
	var l []api.Cert
	for i := range 1 + r.Intn(5) {
		to := pick(r, parties...)
		c := issue(by, to, 21+i)
		if seldom(r, 2) {
			drawnChange(r, &c)
		}
		l, by = append(l, c), to
	}
	return anchor, l
}
