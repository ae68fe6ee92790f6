package path_test

import (
	"math/rand"
	"slices"
	"strings"
	"testing"

	"chirograph/api"
)

// P16.1 and P16.2: which chains there are, and in which order.

var (
	root  = party{"Root", 0}
	inter = party{"Inter", 1}
	sub   = party{"Sub", 2}
	end   = party{"End", 3}
	other = party{"Other", 4}
)

func TestChains(t *testing.T) {
	r, i, s := issue(root, root, 1), issue(root, inter, 2), issue(inter, sub, 3)
	o, l := issue(other, other, 4), issue(sub, end, 5)
	wantChains(t, "by the anchor itself", issue(root, end, 6), certs(r), nil, []int{0})
	wantChains(t, "by the second anchor", issue(root, end, 6), certs(o, r), nil, []int{1})
	wantChains(t, "from the anchor down", l, certs(r), certs(i, s), []int{0, 0, 1})
	wantChains(t, "whatever else is there", l, certs(o, r), certs(l, s, o, i), []int{1, 3, 1})
	wantChains(t, "without one between", l, certs(r), certs(s))
	wantChains(t, "without the issuer", l, certs(r), certs(i))
	wantChains(t, "without the anchor", l, certs(o), certs(i, s))
	wantChains(t, "without anchors", l, nil, certs(i, s, r))
	wantChains(t, "the issuer an anchor", l, certs(s), certs(i, r), []int{0})
	wantChains(t, "all of them anchors", l, certs(r, i, s), nil, []int{2})
	wantChains(t, "all of them anything", l, certs(r, i, s), certs(r, i, s), []int{0, 0, 1, 2}, []int{0, 1, 2}, []int{1, 2}, []int{2})
	wantChains(t, "an anchor that is the leaf", r, certs(r), nil, []int{0})
	wantChains(t, "nothing at all", api.Cert{}, nil, nil)
	wantChains(t, "nothing is like nothing", api.Cert{}, certs(api.Cert{}), nil, []int{0})
}

// Who may have issued whom is what cert.Issues says: by names, as they are
// compared, and by keys' marks, where both have one.
func TestChainsByIssues(t *testing.T) {
	a, b := []byte{1, 2}, []byte{1, 2, 3}
	for _, x := range []struct {
		subject, issuer string
		ski, aki        []byte
		is              bool
	}{
		{"Root", "Root", nil, nil, true}, {"Root", " rOOT  ", nil, nil, true}, {"Root", "Root2", nil, nil, false}, {"", "", nil, nil, true}, {"Root", "", nil, nil, false},
		{"Root", "Root", a, nil, true}, {"Root", "Root", nil, a, true}, {"Root", "Root", a, a, true}, {"Root", "Root", a, b, false}, {"Root", "Root", b, a, false}, {"Root", "root", []byte{}, b, true}, {"Root", "Root", a, []byte{}, true},
		{"Root", "Another", a, a, false},
	} {
		r, i, l := issue(root, root, 1), issue(root, inter, 2), issue(inter, end, 3)
		r.Subject, r.Ski, i.Issuer, i.Aki = org(x.subject), x.ski, org(x.issuer), x.aki
		direct := i
		var anchored, through [][]int
		if x.is {
			anchored, through = [][]int{{0}}, [][]int{{0, 0}}
		}
		wantChains(t, "from the anchor to the leaf", direct, certs(r), nil, anchored...)
		wantChains(t, "from the anchor to one between", l, certs(r), certs(i), through...)
		through = nil
		if x.is {
			through = [][]int{{0, 0}}
		}
		top := issue(other, other, 4)
		r.Issuer = org("Other")
		wantChains(t, "from one between to the leaf", direct, certs(top), certs(r), through...)
	}
}

// Nothing else plays a part: signatures, times and whatever is said.
func TestChainsByNothingElse(t *testing.T) {
	r, i, l := issue(other, root, 1), issue(root, inter, 2), issue(inter, end, 3)
	for _, c := range []*api.Cert{&r, &i, &l} {
		c.Sig, c.Tbs, c.Key, c.From, c.Until, c.Ca, c.Below, c.Usage, c.Unknown = nil, nil, api.Key{}, 9, 3, false, 0, 0, true
		c.Excluded, c.Serial = []api.Gen{{Kind: api.GenDir}}, nil
	}
	r.Aki, l.Ski = []byte{7}, []byte{8}
	wantChains(t, "whatever they say", l, certs(r), certs(i), []int{0, 0})
}

// One with the same Raw as one ahead of it in its list does not count, whatever
// else it says; nor does one with the leaf's.
func TestSameRaw(t *testing.T) {
	r, i, l := issue(root, root, 1), issue(root, inter, 2), issue(inter, end, 3)
	wantChains(t, "twice", l, certs(r, r, r), certs(i, i), []int{0, 0})
	o := issue(other, other, 4)
	as := func(c, other api.Cert) api.Cert {
		c.Raw = other.Raw
		return c
	}
	wantChains(t, "an anchor of another one's Raw", l, certs(o, as(r, o)), certs(i))
	wantChains(t, "an anchor of a later one's Raw", l, certs(as(r, o), o), certs(i), []int{0, 0})
	wantChains(t, "one of another one's Raw", l, certs(r), certs(o, as(i, o)))
	wantChains(t, "one of a later one's Raw", l, certs(r), certs(as(i, o), o), []int{0, 0})
	wantChains(t, "one of an anchor's Raw", l, certs(r, o), certs(as(i, o)), []int{0, 0})
	wantChains(t, "one of the leaf's Raw", l, certs(r), certs(as(i, l)))
	wantChains(t, "one of the leaf's Raw, and another one", l, certs(r), certs(as(i, l), i), []int{0, 1})
	wantChains(t, "an anchor of the leaf's Raw", l, certs(as(r, l)), certs(i), []int{0, 0})
	wantChains(t, "an anchor that issued the leaf, of its Raw", i, certs(as(r, i)), nil, []int{0})
	j := issue(root, inter, 5)
	wantChains(t, "two that are alike", l, certs(r), certs(i, j), []int{0, 0}, []int{0, 1})
	i.Raw, j.Raw = nil, []byte{}
	wantChains(t, "two without Raw", l, certs(r), certs(i, j), []int{0, 0})
	l.Raw = nil
	wantChains(t, "a leaf without Raw", l, certs(r), certs(i, j))
}

// One that issued itself, or its issuer, stands in no chain twice.
func TestNoneTwice(t *testing.T) {
	r := issue(root, root, 1)
	own, again := issue(root, root, 2), issue(root, root, 3)
	l := issue(root, end, 4)
	wantChains(t, "its own issuer", l, certs(r), certs(own), []int{0}, []int{0, 0})
	wantChains(t, "the anchor itself", l, certs(r), certs(r), []int{0}, []int{0, 0})
	wantChains(t, "two, one above the other", l, certs(r), certs(own, again), []int{0}, []int{0, 0}, []int{0, 0, 1}, []int{0, 1}, []int{0, 1, 0})
	back := issue(end, root, 5)
	wantChains(t, "one that the leaf issued", l, certs(r), certs(back), []int{0})
	wantChains(t, "the leaf above itself", l, certs(r), certs(l, back), []int{0})
}

// upTo is the row of the numbers below n.
func upTo(n int) []int {
	l := make([]int, n)
	for i := range l {
		l[i] = i
	}
	return l
}

// A chain has at most MaxPath - 1 between the anchor and the leaf.
func TestLongChains(t *testing.T) {
	for n := 1; n <= 12; n++ {
		anchor, l := line(n)
		leaf, above := l[n-1], l[:n-1]
		back := slices.Clone(above)
		slices.Reverse(back)
		var ahead, behind [][]int
		if n <= api.MaxPath {
			down := upTo(n - 1)
			ahead = [][]int{append([]int{0}, down...)}
			slices.Reverse(down)
			behind = [][]int{append([]int{0}, down...)}
		}
		wantChains(t, "a line", leaf, certs(anchor), above, ahead...)
		wantChains(t, "a line from behind", leaf, certs(anchor), back, behind...)
		if n > 2 {
			short := issue(rank(0), rank(n-1), 99)
			wantChains(t, "a shorter way, too", leaf, certs(anchor), append(slices.Clone(above), short), append(ahead, []int{0, n - 1})...)
		}
	}
}

// The order is that of the numbers, a beginning ahead of what is longer.
func TestOrder(t *testing.T) {
	var anchors, rest []api.Cert
	for i := range 12 {
		anchors = append(anchors, issue(root, root, i))
		rest = append(rest, issue(root, inter, 20+i))
	}
	var want [][]int
	for i := range 12 {
		for j := range 12 {
			want = append(want, []int{i, j})
		}
	}
	wantChains(t, "one between", issue(inter, end, 50), anchors, rest, want...)
	own := issue(inter, inter, 51)
	l := issue(inter, end, 52)
	wantChains(t, "a beginning first", l, certs(anchors[0], issue(other, inter, 53), anchors[1]), certs(own, rest[0]), []int{0, 1}, []int{0, 1, 0}, []int{1}, []int{1, 0}, []int{2, 1}, []int{2, 1, 0})
	wantChains(t, "a beginning first", l, certs(anchors[0], anchors[1]), certs(rest[0], own, rest[1]), []int{0, 0}, []int{0, 0, 1}, []int{0, 2}, []int{0, 2, 1}, []int{1, 0}, []int{1, 0, 1}, []int{1, 2}, []int{1, 2, 1})
}

// crowd is so many that by gave to; none of them is the same.
func crowd(by, to party, n, mark int) []api.Cert {
	l := make([]api.Cert, n)
	c := issue(by, to, mark)
	for i := range l {
		l[i] = c
		l[i].Raw = []byte{byte(mark >> 8), byte(mark), byte(i)}
	}
	return l
}

func TestTooManyAtHand(t *testing.T) {
	l := issue(inter, end, 1)
	r, i := issue(root, root, 2), issue(root, inter, 3)
	many := crowd(other, other, api.MaxCerts, 4)
	wantChains(t, "just so many anchors", l, many, nil)
	wantChains(t, "just so many anchors", l, append(slices.Clone(many[1:]), r), certs(i), []int{api.MaxCerts - 1, 0})
	wantChains(t, "just so many others", l, certs(r), append(slices.Clone(many[1:]), i), []int{0, api.MaxCerts - 1})
	wantChains(t, "just so many of both", l, many, many)
	wantMany(t, "too many anchors", l, append(slices.Clone(many), r), certs(i))
	wantMany(t, "too many others", l, certs(r), append(slices.Clone(many), i))
	wantMany(t, "too many of both", l, append(slices.Clone(many), r), append(slices.Clone(many), i))
	wantMany(t, "too many anchors that are the same", l, slices.Repeat(certs(r), api.MaxCerts+1), certs(i))
	wantMany(t, "too many others that are the same", l, certs(r), slices.Repeat(certs(i), api.MaxCerts+1))
	wantMany(t, "too many anchors alone", l, make([]api.Cert, api.MaxCerts+1), nil)
	wantMany(t, "too many others alone", l, nil, make([]api.Cert, 500))
	wantChains(t, "as many as may be, the same", l, slices.Repeat(certs(r), api.MaxCerts), slices.Repeat(certs(i), api.MaxCerts), []int{0, 0})
}

func TestTooManyChains(t *testing.T) {
	l := issue(inter, end, 1)
	rest := crowd(root, inter, api.MaxCerts, 2)
	anchors := crowd(root, root, api.MaxChains/api.MaxCerts, 3)
	var want [][]int
	for i := range anchors {
		for j := range rest {
			want = append(want, []int{i, j})
		}
	}
	wantChains(t, "just so many", l, anchors, rest, want...)
	direct := issue(other, inter, 4)
	wantMany(t, "one more", l, append(anchors, direct), rest)
	want = append([][]int{{0}}, want...)[:api.MaxChains-api.MaxCerts+1]
	for _, x := range want[1:] {
		x[0]++
	}
	wantChains(t, "one short and others", l, append(certs(direct), anchors[:len(anchors)-1]...), rest, want...)
	one := rest[:1]
	wantMany(t, "chains through one another", l, crowd(root, root, 33, 3), append(crowd(root, root, 7, 5), one...))
	wantMany(t, "all issue all", issue(root, end, 6), crowd(root, root, 64, 3), crowd(root, root, 64, 5))
	wantMany(t, "all issue all, one anchor", issue(root, end, 6), crowd(root, root, 1, 3), crowd(root, root, 64, 5))
}

// Of n that all issue all, below one anchor, the chains are the rows of up to
// seven of them: 1 + n + n (n - 1) + .. Of 5 they are 326, of 4 65.
func TestRowsOfAll(t *testing.T) {
	l := issue(root, end, 1)
	var want [][]int
	var lay func(row []int)
	lay = func(row []int) {
		want = append(want, slices.Clone(row))
		for i := range 4 {
			if !slices.Contains(row[1:], i) {
				lay(append(row, i))
			}
		}
	}
	lay([]int{0})
	if len(want) != 65 {
		t.Fatal(len(want))
	}
	wantChains(t, "four that issue all", l, crowd(root, root, 1, 2), crowd(root, root, 4, 3), want...)
	wantMany(t, "five that issue all", l, crowd(root, root, 1, 2), crowd(root, root, 5, 3))
}

// keyed has marks of keys.
func keyed(c api.Cert, ski, aki string) api.Cert {
	c.Ski, c.Aki = []byte(ski), []byte(aki)
	return c
}

// However many issue one another: where nothing leads to an anchor, or just
// through one that stands below already, nothing is found, soon.
func TestDeadEnds(t *testing.T) {
	l := keyed(issue(root, end, 1), "", "gate")
	all := crowd(root, root, 63, 2)
	wantChains(t, "no anchor at all", issue(root, end, 1), nil, all)
	wantChains(t, "no anchor above", issue(root, end, 1), certs(issue(other, other, 3)), all)
	for i := range all {
		all[i] = keyed(all[i], "crowd", "crowd")
	}
	anchor := keyed(issue(root, root, 4), "anchor", "")
	gate := issue(root, root, 5)
	gate.Ski, gate.Aki = nil, nil
	wantChains(t, "one gate", l, certs(anchor), append(slices.Clone(all), gate), []int{0, 63})
	wantChains(t, "one gate ahead", l, certs(anchor), append(certs(gate), all...), []int{0, 0})
	wantChains(t, "no gate", l, certs(anchor), all)
	var far []api.Cert
	for i := range 7 {
		far = append(far, issue(rank(i), rank(i+1), 10+i))
	}
	last := issue(rank(7), root, 20)
	wantChains(t, "too far for one of a crowd", issue(root, end, 1), certs(issue(rank(0), rank(0), 9)), slices.Concat(far, certs(last), crowd(root, root, 55, 2)))
	wantChains(t, "just as far", issue(root, end, 1), certs(issue(rank(0), rank(1), 9)), slices.Concat(far[1:], certs(last), crowd(root, root, 55, 2)), []int{0, 0, 1, 2, 3, 4, 5, 6})
}

// Long names are compared once each, not each with each.
func TestLongNames(t *testing.T) {
	long := strings.Repeat("x", 1<<19)
	var anchors, rest []api.Cert
	for i := range api.MaxCerts {
		anchors = append(anchors, issue(party{long + string(rune('A'+i)), 1}, party{long + string(rune('A'+i)), 1}, i))
		rest = append(rest, issue(party{long + string(rune('A'+i)), 1}, party{long + "/" + string(rune('A'+i)), 2}, 100+i))
	}
	r := rand.New(rand.NewSource(161))
	at := r.Intn(26)
	l := issue(party{long + "/" + string(rune('a'+at)), 2}, end, 300)
	rest[at+26], anchors[at+26] = rest[0], anchors[0]
	wantChains(t, "one of all", l, anchors[:26], rest[:26], []int{at, at})
}
