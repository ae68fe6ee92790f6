package path_test

import (
	"fmt"
	"math/rand"
	"slices"
	"strconv"
	"testing"

	"chirograph/api"
	"chirograph/path"
)

func pick[T any](r *rand.Rand, l ...T) T {
	return l[r.Intn(len(l))]
}

// seldom is true once in n times.
func seldom(r *rand.Rand, n int) bool {
	return r.Intn(n) == 0
}

func org(s string) [][]api.Atv {
	return [][]api.Atv{{{Type: "2.5.4.10", Tag: api.TagUtf8, Data: []byte(s)}}}
}

// The times of what is issued here, and between them the time of asking.
const from, until, now = 100, 200, 150

func asked() api.Ask {
	return api.Ask{At: now, Now: now}
}

// party is one that issues: a name, and a key by its number.
type party struct {
	name string
	key  int
}

// issue is a certificate that by gave to, and that serves all. No two have the
// same mark, which is its serial, too.
func issue(by, to party, mark int) api.Cert {
	text := []byte("certificate " + strconv.Itoa(mark))
	return api.Cert{
		Raw: append([]byte("raw "), text...), Tbs: text, Serial: []byte{byte(mark >> 8), byte(mark)},
		Issuer: org(by.name), Subject: org(to.name), From: from, Until: until,
		Key: products[to.key].key(), Way: api.Alg{Kind: api.AlgRsa, Digest: api.Sha1}, Sig: products[by.key].sign(text),
		Ca: true, Below: -1, Usage: -1, Require: -1, Inhibit: -1,
	}
}

// list is one that by gave out, and that tells of these.
func list(by party, mark int, gone ...api.Gone) api.Crl {
	text := []byte("list " + strconv.Itoa(mark))
	return api.Crl{
		Raw: append([]byte("raw "), text...), Tbs: text, Issuer: org(by.name), This: from, Next: until,
		Way: api.Alg{Kind: api.AlgRsa, Digest: api.Sha1}, Sig: products[by.key].sign(text), Gone: gone,
	}
}

// goneBy tells of a certificate that it counts no more since some time.
func goneBy(c api.Cert, at int) api.Gone {
	return api.Gone{Serial: c.Serial, At: at}
}

// rank is the party at some place from the anchor down: each has another name
// and key.
func rank(i int) party {
	return party{"rank " + strconv.Itoa(i), i}
}

// line is an anchor, and so many certificates below it, each issued by the one
// above; none but the leaf's are a ca's.
func line(n int) (api.Cert, []api.Cert) {
	var l []api.Cert
	for i := range n {
		l = append(l, issue(rank(i), rank(i+1), i+1))
	}
	if n > 0 {
		l[n-1].Ca = false
	}
	return issue(rank(0), rank(0), 0), l
}

// lists are those that the issuers of a line gave out, none telling of anything.
func lists(n int) []api.Crl {
	var l []api.Crl
	for i := range n {
		l = append(l, list(rank(i), i))
	}
	return l
}

// changed is a list in which one thing is changed.
func changed[T any](l []T, at int, change func(x *T)) []T {
	l = slices.Clone(l)
	change(&l[at])
	return l
}

func certs(l ...api.Cert) []api.Cert {
	return l
}

func crls(l ...api.Crl) []api.Crl {
	return l
}

// shown tells what of certificates counts for who issued whom.
func shown(l ...api.Cert) string {
	s := ""
	for _, c := range l {
		s += fmt.Sprintf("{%q: %q by %q, ski %x, aki %x, from %d until %d, ca %v, below %d, usage %d, eku %q %v} ", c.Raw, said(c.Subject), said(c.Issuer), c.Ski, c.Aki, c.From, c.Until, c.Ca, c.Below, c.Usage, c.Eku, c.EkuMust)
	}
	return s[:min(len(s), 1500)]
}

func said(n [][]api.Atv) string {
	if len(n) == 0 || len(n[0]) == 0 {
		return ""
	}
	return string(n[0][0].Data)
}

func sameChains(a, b [][]int) bool {
	return slices.EqualFunc(a, b, slices.Equal[[]int])
}

func cut(x any) string {
	s := fmt.Sprint(x)
	return s[:min(len(s), 500)]
}

func wantChains(t *testing.T, what string, leaf api.Cert, anchors, rest []api.Cert, want ...[]int) {
	t.Helper()
	if got, e := path.Chains(leaf, anchors, rest); e != api.OK || !sameChains(got, want) {
		t.Errorf("%s: Chains: %s, error %d; wanted %s", what, cut(got), e, cut(want))
	}
}

func wantMany(t *testing.T, what string, leaf api.Cert, anchors, rest []api.Cert) {
	t.Helper()
	if got, e := path.Chains(leaf, anchors, rest); e != api.ErrMany || len(got) > 0 {
		t.Errorf("%s: Chains: %s, error %d; wanted ErrMany", what, cut(got), e)
	}
	if n, l := path.Validate(leaf, anchors, rest, nil, asked()); n != api.PathMany || len(l) > 0 {
		t.Errorf("%s: Validate: %d, %v; wanted PathMany", what, n, l)
	}
}

func wantCheck(t *testing.T, what string, anchor api.Cert, chain []api.Cert, crls []api.Crl, ask api.Ask, want int) {
	t.Helper()
	if n := path.Check(anchor, chain, crls, ask); n != want {
		t.Errorf("%s: Check: %d; wanted %d", what, n, want)
	}
}

// wantLine asks what is said of a line in which one certificate is changed.
func wantLine(t *testing.T, what string, n, at int, change func(c *api.Cert), ask api.Ask, want int) {
	t.Helper()
	anchor, l := line(n)
	wantCheck(t, what+" in "+strconv.Itoa(n)+" at "+strconv.Itoa(at), anchor, changed(l, at, change), lists(n), ask, want)
}

func wantValidate(t *testing.T, what string, leaf api.Cert, anchors, rest []api.Cert, crls []api.Crl, ask api.Ask, want int, chain ...int) {
	t.Helper()
	if n, l := path.Validate(leaf, anchors, rest, crls, ask); n != want || !slices.Equal(l, chain) {
		t.Errorf("%s: Validate: %d, %v; wanted %d, %v", what, n, l, want, chain)
	}
}
