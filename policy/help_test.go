package policy_test

import (
	"fmt"
	"math/rand"
	"slices"
	"testing"

	"chirograph/api"
	"chirograph/cert"
	"chirograph/policy"
)

// each stands for each policy.
const each = api.AnyPolicy

func pick[T any](r *rand.Rand, l ...T) T {
	return l[r.Intn(len(l))]
}

func list(l ...string) []string {
	return l
}

func chain(l ...api.Cert) []api.Cert {
	return l
}

func org(s string) [][]api.Atv {
	return [][]api.Atv{{{Type: "2.5.4.10", Tag: api.TagUtf8, Data: []byte(s)}}}
}

// says is a certificate that another one's subject issued, and that says no more
// than its policies.
func says(policies ...string) api.Cert {
	return api.Cert{Issuer: org("a"), Subject: org("b"), Policies: policies, Require: -1, Inhibit: -1}
}

// own is one whose issuer is its subject.
func own(policies ...string) api.Cert {
	c := says(policies...)
	c.Subject = org(" A ")
	return c
}

// with has c bound what comes behind it.
func with(c api.Cert, require, inhibit int) api.Cert {
	c.Require, c.Inhibit = require, inhibit
	return c
}

// state is a Policy, its numbers ahead.
func state(explicit, left int, l ...string) api.Policy {
	return api.Policy{Set: l, Explicit: explicit, Any: left}
}

func sameState(a, b api.Policy) bool {
	return a.Explicit == b.Explicit && a.Any == b.Any && slices.Equal(a.Set, b.Set)
}

// shown tells what of certificates counts here.
func shown(l ...api.Cert) (s string) {
	for _, c := range l {
		s += fmt.Sprintf("{%q, own %v, require %d, inhibit %d}", c.Policies, cert.Own(c), c.Require, c.Inhibit)
	}
	return s[:min(len(s), 1000)]
}

// complain tells no more than can be read.
func complain(t *testing.T, form string, l ...any) {
	t.Helper()
	s := fmt.Sprintf(form, l...)
	t.Error(s[:min(len(s), 1000)])
}

func wantStart(t *testing.T, n int, explicit, inhibit bool, asked api.Policy) {
	t.Helper()
	if got := policy.Start(n, explicit, inhibit); !sameState(got, asked) {
		complain(t, "Start(%d, %v, %v): %v; wanted %v", n, explicit, inhibit, got, asked)
	}
}

func wantStep(t *testing.T, p api.Policy, c api.Cert, last bool, asked api.Policy) {
	t.Helper()
	if got, ok := policy.Step(p, c, last); !ok || !sameState(got, asked) {
		complain(t, "Step(%v, %s, %v): %v, %v; wanted %v", p, shown(c), last, got, ok, asked)
	}
}

// wantStop asks for the zero Policy and false.
func wantStop(t *testing.T, p api.Policy, c api.Cert, last bool) {
	t.Helper()
	if got, ok := policy.Step(p, c, last); ok || !sameState(got, api.Policy{}) {
		complain(t, "Step(%v, %s, %v): %v, %v; wanted false", p, shown(c), last, got, ok)
	}
}

func wantEnd(t *testing.T, p api.Policy, c api.Cert, user, asked []string, ok bool) {
	t.Helper()
	if got, is := policy.End(p, c, user); is != ok || !slices.Equal(got, asked) {
		complain(t, "End(%v, %s, %q): %q, %v; wanted %q, %v", p, shown(c), user, got, is, asked, ok)
	}
}

func wantRun(t *testing.T, l []api.Cert, user []string, explicit, inhibit bool, asked []string, ok bool) {
	t.Helper()
	if got, is := policy.Run(l, user, explicit, inhibit); is != ok || !slices.Equal(got, asked) {
		complain(t, "Run(%s, %q, %v, %v): %q, %v; wanted %q, %v", shown(l...), user, explicit, inhibit, got, is, asked, ok)
	}
}

// What is drawn is of few policies, so that much is in both of two lists.

func drawnList(r *rand.Rand, most int) []string {
	var l []string
	for range r.Intn(most + 1) {
		l = append(l, pick(r, each, "1.2.3", "1.2.3", "1.2.4", "1.2.10", "2.5.29.32", ""))
	}
	return l
}

func drawnBound(r *rand.Rand) int {
	return pick(r, -1, -1, -1, -1, -1, 0, 1, 2, 3, 9, -7)
}

func drawnCert(r *rand.Rand) api.Cert {
	c := pick(r, says, says, own)(drawnList(r, 4)...)
	if r.Intn(2) == 0 {
		c.Policies = append(c.Policies, pick(r, each, "1.2.3"))
	}
	return with(c, drawnBound(r), drawnBound(r))
}

func drawnChain(r *rand.Rand, most int) []api.Cert {
	l := make([]api.Cert, 1+r.Intn(most))
	for i := range l {
		l[i] = drawnCert(r)
	}
	return l
}

func drawnState(r *rand.Rand) api.Policy {
	return state(r.Intn(5)-1, r.Intn(5)-1, drawnList(r, 4)...)
}

func maybe(r *rand.Rand) bool {
	return r.Intn(2) == 0
}
