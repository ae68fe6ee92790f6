package policy_test

import (
	"bytes"
	"math/rand"
	"slices"
	"testing"

	"chirograph/api"
	"chirograph/name"
)

// A second writing of the chapter, by other means: of each policy that stands
// anywhere it is asked whether it is told; of a whole chain in one go, without
// states.

// ordered has what stands in lists, in order, each once.
func ordered(lists ...[]string) (out []string) {
	for _, x := range slices.Concat(lists...) {
		at := 0
		for at < len(out) && bytes.Compare([]byte(out[at]), []byte(x)) < 0 {
			at++
		}
		if at == len(out) || out[at] != x {
			out = slices.Insert(out, at, x)
		}
	}
	return out
}

func in(x string, l []string) bool {
	for _, y := range l {
		if x == y {
			return true
		}
	}
	return false
}

func modelOwn(c api.Cert) bool {
	return name.Key(c.Issuer) == name.Key(c.Subject)
}

func modelStep(p api.Policy, c api.Cert, last bool) (out api.Policy, ok bool) {
	for _, x := range ordered(p.Set, c.Policies) {
		named := in(x, c.Policies) && x != each
		through := in(each, c.Policies) && (p.Any >= 1 || modelOwn(c) && !last)
		if named && (in(x, p.Set) || in(each, p.Set)) || through && in(x, p.Set) {
			out.Set = append(out.Set, x)
		}
	}
	if len(out.Set) == 0 && p.Explicit < 1 {
		return api.Policy{}, false
	}
	out.Explicit, out.Any = modelNumber(p.Explicit, c.Require, c, last), modelNumber(p.Any, c.Inhibit, c, last)
	return out, true
}

func modelNumber(n, bound int, c api.Cert, last bool) int {
	switch {
	case last:
		return n
	case modelOwn(c) || n <= 0:
	default:
		n--
	}
	if 0 <= bound && bound < n {
		n = bound
	}
	return n
}

func modelEnd(p api.Policy, c api.Cert, user []string) (out []string, ok bool) {
	for _, x := range ordered(p.Set, user) {
		all := len(user) == 0 || in(each, user)
		if all && in(x, p.Set) || !all && in(x, user) && (in(x, p.Set) || in(each, p.Set)) {
			out = append(out, x)
		}
	}
	return out, len(out) > 0 || p.Explicit >= 2 && c.Require != 0
}

// modelLeft is what is left of a number at the i-th certificate: the least of what
// it was and of all bounds ahead, each less by those behind it that are not their
// own issuer's.
func modelLeft(l []api.Cert, i, first int, bound func(api.Cert) int) int {
	least, others := first, 0
	for _, c := range l[:i] {
		if !modelOwn(c) {
			others++
		}
	}
	least -= others
	for _, c := range l[:i] {
		if !modelOwn(c) {
			others--
		}
		if b := bound(c); b >= 0 {
			least = min(least, b-others)
		}
	}
	return max(least, 0)
}

// modelRun: a policy holds at the i-th certificate, if each one up to it names it
// or lets each policy through, and at least one names it; AnyPolicy, if all of
// them let each policy through.
func modelRun(l []api.Cert, user []string, explicit, inhibit bool) ([]string, bool) {
	if len(l) == 0 {
		return nil, false
	}
	require := func(c api.Cert) int { return c.Require }
	inhibited := func(c api.Cert) int { return c.Inhibit }
	needs, lets := min(len(l), 8)+1, min(len(l), 8)+1
	if explicit {
		needs = 0
	}
	if inhibit {
		lets = 0
	}
	end := len(l) - 1
	through := func(i int) bool {
		return in(each, l[i].Policies) && (modelLeft(l, i, lets, inhibited) > 0 || modelOwn(l[i]) && i < end)
	}
	var set []string
	for i := range l {
		set = modelHeld(l[:i+1], through)
		if len(set) == 0 && modelLeft(l, i, needs, require) == 0 {
			return nil, false
		}
	}
	return modelEnd(api.Policy{Set: set, Explicit: modelLeft(l, end, needs, require)}, l[end], user)
}

func modelHeld(l []api.Cert, through func(int) bool) (out []string) {
	all := list(each)
	for _, c := range l {
		all = ordered(all, c.Policies)
	}
	for _, x := range all {
		named, held := x == each, true
		for i, c := range l {
			names := x != each && in(x, c.Policies)
			named = named || names
			held = held && (names || through(i))
		}
		if named && held {
			out = append(out, x)
		}
	}
	return out
}

// wantStepAs asks that Step answers what another call answered.
func wantStepAs(t *testing.T, p api.Policy, c api.Cert, last bool, asked api.Policy, ok bool) {
	t.Helper()
	if ok {
		wantStep(t, p, c, last, asked)
	} else {
		wantStop(t, p, c, last)
	}
}

// wantModel asks that Step and End answer what the second writing says, and tells
// what that is of Step's bool.
func wantModel(t *testing.T, p api.Policy, c api.Cert, last bool, user []string) bool {
	t.Helper()
	asked, going := modelStep(p, c, last)
	wantStepAs(t, p, c, last, asked, going)
	l, ok := modelEnd(p, c, user)
	wantEnd(t, p, c, user, l, ok)
	return going
}

// P15.2, P15.3: all short lists, with all that the numbers may be.
func TestStepAndEndOfAll(t *testing.T) {
	var lists [][]string
	few := list(each, "1.2.3", "1.2.4")
	for a := range 8 {
		var l []string
		for i, x := range few {
			if a>>i&1 == 1 {
				l = append(l, x)
			}
		}
		lists = append(lists, l)
	}
	for _, set := range lists {
		for _, said := range lists {
			for n := range 4 * 4 * 4 {
				p := state(n%4-1, n/4%4-1, set...)
				for _, c := range chain(with(says(said...), n/16-1, 0), with(own(said...), -1, n/16-1)) {
					wantModel(t, p, c, false, said)
					wantModel(t, p, c, true, said)
				}
			}
		}
		if t.Failed() {
			return
		}
	}
}

func TestDrawnSteps(t *testing.T) {
	r := rand.New(rand.NewSource(152))
	seen := map[bool]int{}
	for range 60000 {
		seen[wantModel(t, drawnState(r), drawnCert(r), maybe(r), drawnList(r, 4))]++
		if t.Failed() {
			return
		}
	}
	if seen[true] < 2000 || seen[false] < 2000 {
		t.Errorf("only %d were true, %d false", seen[true], seen[false])
	}
}

// P15.4: whole chains, in one go.
func TestDrawnRuns(t *testing.T) {
	r := rand.New(rand.NewSource(155))
	seen := map[bool]int{}
	for range 60000 {
		l, user, explicit, inhibit := drawnChain(r, 11), drawnList(r, 3), maybe(r), maybe(r)
		asked, ok := modelRun(l, user, explicit, inhibit)
		wantRun(t, l, user, explicit, inhibit, asked, ok)
		seen[ok && len(asked) > 0]++
		if t.Failed() {
			return
		}
	}
	if seen[true] < 2000 || seen[false] < 2000 {
		t.Errorf("only %d had policies, %d not", seen[true], seen[false])
	}
}

// P15.4: all chains of up to four of a few certificates, in one go.
func TestRunsOfAll(t *testing.T) {
	few := chain(says(), says("1.2.3"), says(each), own(each), own(), with(says("1.2.3", "1.2.4"), 0, -1), with(says("1.2.3"), -1, 0), with(says(each, "1.2.4"), 1, 1), with(own("1.2.3"), 1, 0))
	all := [][]api.Cert{nil}
	for from := 0; len(all) < 7000; {
		end := len(all)
		for _, l := range all[from:end] {
			for _, c := range few {
				all = append(all, append(slices.Clip(l), c))
			}
		}
		from = end
	}
	for _, l := range all {
		for n := range 4 {
			for _, user := range [][]string{nil, list("1.2.4", "1.2.5")} {
				asked, ok := modelRun(l, user, n&1 == 1, n&2 == 2)
				wantRun(t, l, user, n&1 == 1, n&2 == 2, asked, ok)
			}
		}
		if t.Failed() {
			return
		}
	}
	if len(all) != 1+9+81+729+6561 {
		t.Errorf("%d chains", len(all))
	}
}
