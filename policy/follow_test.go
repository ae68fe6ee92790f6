package policy_test

import (
	"math/rand"
	"slices"
	"testing"

	"chirograph/api"
	"chirograph/policy"
)

// P15.5

// other is l in another order, some of it twice.
func other(r *rand.Rand, l []string) []string {
	l = slices.Clone(l)
	for _, x := range slices.Clone(l) {
		if r.Intn(3) == 0 {
			l = append(l, x)
		}
	}
	r.Shuffle(len(l), func(i, j int) { l[i], l[j] = l[j], l[i] })
	return l
}

func otherCert(r *rand.Rand, c api.Cert) api.Cert {
	c.Policies = other(r, c.Policies)
	return c
}

// The order in which policies stand plays no part, nor do those that stand twice.
func TestOrdersPlayNoPart(t *testing.T) {
	r := rand.New(rand.NewSource(1551))
	for range 30000 {
		p, l, user, last, explicit, inhibit := drawnState(r), drawnChain(r, 5), drawnList(r, 4), maybe(r), maybe(r), maybe(r)
		q := state(p.Explicit, p.Any, other(r, p.Set)...)
		next, ok := policy.Step(p, l[0], last)
		wantStepAs(t, q, otherCert(r, l[0]), last, next, ok)
		asked, ok := policy.End(p, l[0], user)
		wantEnd(t, q, otherCert(r, l[0]), other(r, user), asked, ok)
		asked, ok = policy.Run(l, user, explicit, inhibit)
		var m []api.Cert
		for _, c := range l {
			m = append(m, otherCert(r, c))
		}
		wantRun(t, m, other(r, user), explicit, inhibit, asked, ok)
		if t.Failed() {
			return
		}
	}
}

// drawnAsk has some policies that are asked for, and more, or all, of them.
func drawnAsk(r *rand.Rand) (few, more []string) {
	few = append(drawnList(r, 2), "1.2.3")
	if r.Intn(4) == 0 {
		few[len(few)-1] = "1.2.9"
	}
	switch r.Intn(6) {
	case 0:
		return few, nil
	case 1:
		return nil, nil
	case 2:
		return few, list(each)
	}
	return few, other(r, append(drawnList(r, 2), few...))
}

// Who asks for more policies is not told false where one who asks for fewer is
// told true.
func TestMoreAskedFor(t *testing.T) {
	r := rand.New(rand.NewSource(1552))
	won := 0
	for range 60000 {
		l, explicit, inhibit := drawnChain(r, 5), maybe(r), maybe(r)
		few, more := drawnAsk(r)
		_, least := policy.Run(l, few, explicit, inhibit)
		_, most := policy.Run(l, more, explicit, inhibit)
		if least && !most {
			t.Fatalf("Run of %s: true for %q, false for %q", shown(l...), few, more)
		}
		if most && !least {
			won++
		}
		p := drawnState(r)
		_, least = policy.End(p, l[0], few)
		if _, most = policy.End(p, l[0], more); least && !most {
			t.Fatalf("End of %v: true for %q, false for %q", p, few, more)
		}
	}
	if won < 500 {
		t.Errorf("only %d were won", won)
	}
}

// Who does not ask explicitly is not told false where one who does is told true;
// and both are told the same policies.
func TestExplicitIsLess(t *testing.T) {
	r := rand.New(rand.NewSource(1553))
	won := 0
	for range 60000 {
		l, user, inhibit := drawnChain(r, 5), drawnList(r, 3), maybe(r)
		asked, ok := policy.Run(l, user, true, inhibit)
		got, is := policy.Run(l, user, false, inhibit)
		if ok && (!is || !slices.Equal(got, asked)) {
			t.Fatalf("Run of %s: explicitly %q, else %q, %v", shown(l...), asked, got, is)
		}
		if ok && len(asked) == 0 {
			t.Fatalf("Run of %s: explicitly true for %q, of no policy", shown(l...), user)
		}
		if is && !ok {
			won++
		}
	}
	if won < 2000 {
		t.Errorf("only %d were won", won)
	}
}

// What is answered is among those that were asked for, is sorted, and each stands
// in it once; beside false nothing is answered.
func TestAnswersAreAskedFor(t *testing.T) {
	r := rand.New(rand.NewSource(1554))
	want := func(l, user []string, ok bool) {
		t.Helper()
		all := len(user) == 0 || slices.Contains(user, each)
		for i, x := range l {
			if !all && !slices.Contains(user, x) {
				t.Fatalf("%q was not asked for by %q", x, user)
			}
			if i > 0 && l[i-1] >= x {
				t.Fatalf("%q is not sorted", l)
			}
		}
		if !ok && len(l) > 0 {
			t.Fatalf("%q, and false", l)
		}
	}
	for range 60000 {
		c, p, user := drawnChain(r, 5), drawnState(r), drawnList(r, 4)
		l, ok := policy.Run(c, user, maybe(r), maybe(r))
		want(l, user, ok)
		l, ok = policy.End(p, c[0], user)
		want(l, user, ok)
		q, ok := policy.Step(p, c[0], maybe(r))
		want(q.Set, nil, ok)
	}
}
