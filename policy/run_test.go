package policy_test

import (
	"math/rand"
	"slices"
	"testing"

	"chirograph/api"
	"chirograph/policy"
)

// P15.4

// The chapter's examples.
func TestExamples(t *testing.T) {
	wantRun(t, chain(says("1.2.3", "1.2.4")), list("1.2.4", "1.2.5"), true, false, list("1.2.4"), true)
	wantRun(t, chain(says()), nil, true, false, nil, false)
	wantRun(t, chain(says()), nil, false, false, nil, true)
}

func TestRunOfNone(t *testing.T) {
	for _, l := range [][]api.Cert{nil, {}} {
		for _, user := range [][]string{nil, list(each), list("1.2.3")} {
			wantRun(t, l, user, false, false, nil, false)
			wantRun(t, l, user, true, true, nil, false)
		}
	}
}

func TestRunOfOne(t *testing.T) {
	for _, x := range []struct {
		c                 api.Cert
		user              []string
		explicit, inhibit bool
		asked             []string
		ok                bool
	}{
		{says("1.2.3"), nil, false, false, list("1.2.3"), true},
		{says("1.2.3"), nil, true, true, list("1.2.3"), true},
		{says("1.2.3"), list("1.2.4"), false, false, nil, true},
		{says("1.2.3"), list("1.2.4"), true, false, nil, false},
		{says(each), nil, true, false, list(each), true},
		{says(each), list("1.2.4", "1.2.3"), true, false, list("1.2.3", "1.2.4"), true},
		{says(each), nil, true, true, nil, false},
		{own(each), nil, true, true, nil, false},
		{says(each, "1.2.3"), nil, true, true, list("1.2.3"), true},
		{says(each), nil, false, true, nil, true},
		{with(says(), 0, -1), nil, false, false, nil, false},
		{with(says(), 1, -1), nil, false, false, nil, true},
		{with(says(each), -1, 0), nil, true, false, list(each), true},
		{with(says("1.2.3"), 0, -1), list("1.2.4"), false, false, nil, false},
		{with(says("1.2.3"), 0, -1), list("1.2.3"), false, false, list("1.2.3"), true},
	} {
		wantRun(t, chain(x.c), x.user, x.explicit, x.inhibit, x.asked, x.ok)
	}
}

func TestRunOfMore(t *testing.T) {
	a, b := "1.2.3", "1.2.4"
	for _, x := range []struct {
		l                 []api.Cert
		user              []string
		explicit, inhibit bool
		asked             []string
		ok                bool
	}{
		{chain(says(a, b), says(b), says(b, a)), nil, true, false, list(b), true},
		{chain(says(a), says(b)), nil, true, false, nil, false},
		{chain(says(a), says(b)), nil, false, false, nil, true},
		{chain(says(a), says(), says(a)), nil, true, false, nil, false},
		{chain(says(a), says(), says(a)), nil, false, false, nil, true},
		{chain(says(each), says(a)), nil, true, false, list(a), true},
		{chain(says(each), says(a)), nil, true, true, nil, false},
		{chain(own(each), says(a)), nil, true, true, list(a), true},
		{chain(says(a), says(each)), nil, true, true, nil, false},
		{chain(says(each, a), says(each)), list(b), true, false, list(b), true},
		// Inhibit: at once, behind one more, behind one's own.
		{chain(with(says(a), -1, 0), says(each)), nil, true, false, nil, false},
		{chain(with(says(a), -1, 1), says(each)), nil, true, false, list(a), true},
		{chain(with(says(a), -1, 1), says(each), says(each)), nil, true, false, nil, false},
		{chain(with(says(a), -1, 1), own(each), says(each)), nil, true, false, list(a), true},
		{chain(with(says(a), -1, 0), own(each), own(each), says(a)), nil, true, false, list(a), true},
		{chain(with(says(a), -1, 0), own(each)), nil, true, false, nil, false},
		{chain(with(says(a), -1, 2), with(says(a), -1, 9), says(each)), nil, true, false, list(a), true},
		{chain(with(says(a), -1, 1), with(says(a), -1, 9), says(each)), nil, true, false, nil, false},
		// Require: at once, behind one more, behind one's own, behind the last one.
		{chain(with(says(), 0, -1), says()), nil, false, false, nil, false},
		{chain(with(says(), 1, -1), says()), nil, false, false, nil, false},
		{chain(with(says(), 2, -1), says()), nil, false, false, nil, true},
		{chain(with(says(), 2, -1), says(), says()), nil, false, false, nil, false},
		{chain(with(says(), 2, -1), own(), says()), nil, false, false, nil, true},
		{chain(with(says(), 1, -1), own(), own(), says(a)), nil, false, false, nil, false},
		{chain(with(says(), 3, -1), with(says(), 9, -1), says(), says()), nil, false, false, nil, false},
		{chain(with(says(a), 0, -1), says(a), says(a)), nil, false, false, list(a), true},
		{chain(says(), says(), with(says(), 0, -1)), nil, false, false, nil, false},
		{chain(says(), says(), with(says(), 1, -1)), nil, false, false, nil, true},
	} {
		wantRun(t, x.l, x.user, x.explicit, x.inhibit, x.asked, x.ok)
	}
}

// Start is of how many there are, at most MaxPath: so what says nothing is refused
// from the ninth one on, and AnyPolicy counts no more at the tenth.
func TestRunOfMany(t *testing.T) {
	for n := 1; n < 30; n++ {
		l, o := slices.Repeat(chain(says()), n), slices.Repeat(chain(own()), n)
		wantRun(t, l, nil, false, false, nil, n <= 8)
		wantRun(t, o, nil, false, false, nil, true)
		l = append(slices.Repeat(chain(says("1.2.3")), n), says(each))
		if n < 9 {
			wantRun(t, l, nil, false, false, list("1.2.3"), true)
		} else {
			wantRun(t, l, nil, false, false, nil, false)
		}
	}
	wantRun(t, slices.Repeat(chain(says("1.2.3", "1.2.4")), 1000), nil, true, true, list("1.2.3", "1.2.4"), true)
}

// byHand takes the steps of Run, one by one.
func byHand(l []api.Cert, user []string, explicit, inhibit bool) ([]string, bool) {
	p := policy.Start(len(l), explicit, inhibit)
	for i, c := range l {
		q, ok := policy.Step(p, c, i == len(l)-1)
		if !ok {
			return nil, false
		}
		p = q
	}
	return policy.End(p, l[len(l)-1], user)
}

func TestRunStepByStep(t *testing.T) {
	r := rand.New(rand.NewSource(154))
	seen := map[bool]int{}
	for range 60000 {
		l, user, explicit, inhibit := drawnChain(r, 11), drawnList(r, 3), maybe(r), maybe(r)
		asked, ok := byHand(l, user, explicit, inhibit)
		wantRun(t, l, user, explicit, inhibit, asked, ok)
		seen[ok]++
		if t.Failed() {
			return
		}
	}
	if seen[true] < 2000 || seen[false] < 2000 {
		t.Errorf("only %d were true, %d false", seen[true], seen[false])
	}
}
