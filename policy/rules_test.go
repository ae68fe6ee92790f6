package policy_test

import (
	"math"
	"math/rand"
	"reflect"
	"slices"
	"strings"
	"testing"

	"chirograph/api"
	"chirograph/policy"
)

func whole[T any](l []T) []T {
	return l[:cap(l)]
}

// roomy is l in other memory, with so much spare room, in which x stands.
func roomy[T any](l []T, room int, x T) []T {
	m := make([]T, len(l)+room)
	for i := range m {
		m[i] = x
	}
	copy(m, l)
	return m[:len(l)]
}

// wantApart asks that no two lists that answers, or arguments, have share memory.
func wantApart(t *testing.T, l ...any) {
	t.Helper()
	type stretch struct{ from, to uintptr }
	var all []stretch
	var look func(v reflect.Value)
	look = func(v reflect.Value) {
		switch v.Kind() {
		case reflect.Struct:
			for i := range v.NumField() {
				look(v.Field(i))
			}
		case reflect.Slice:
			if v.Cap() == 0 {
				return
			}
			v = v.Slice(0, v.Cap())
			all = append(all, stretch{v.Pointer(), v.Pointer() + uintptr(v.Len())*v.Type().Elem().Size()})
			for i := range v.Len() {
				look(v.Index(i))
			}
		}
	}
	for _, x := range l {
		look(reflect.ValueOf(x))
	}
	for i, a := range all {
		for _, b := range all[:i] {
			if a.from < b.to && b.from < a.to {
				t.Error("two lists share memory")
				return
			}
		}
	}
}

// The rule of memory: no list of an answer is shared, with an argument or with
// another answer; what is handed in stays, spare room too, and spare room plays
// no part; an answer stays when arguments and other answers are written over.
func TestMemory(t *testing.T) {
	r := rand.New(rand.NewSource(1581))
	for range 3000 {
		p, c, user := drawnState(r), drawnCert(r), drawnList(r, 4)
		asked, going := policy.Step(p, c, false)
		told, ok := policy.End(p, c, user)
		asked.Set, told = slices.Clone(asked.Set), slices.Clone(told)
		p.Set, c.Policies, user = roomy(p.Set, 3, each), roomy(c.Policies, 3, each), roomy(user, 3, each)
		handed := [][]string{p.Set, c.Policies, user}
		var was [][]string
		for _, l := range handed {
			was = append(was, slices.Clone(whole(l)))
		}
		q, is := policy.Step(p, c, false)
		q2, _ := policy.Step(p, c, false)
		l, is2 := policy.End(p, c, user)
		l2, _ := policy.End(p, c, user)
		wantApart(t, p, c, user, q, q2, l, l2)
		for i, x := range handed {
			if !slices.Equal(whole(x), was[i]) {
				t.Errorf("an argument was changed: %q", whole(x))
			}
		}
		for _, x := range append(handed, q2.Set, l2) {
			for i := range whole(x) {
				whole(x)[i] = "9.9"
			}
		}
		if is != going || is2 != ok || !sameState(q, asked) || !slices.Equal(l, told) {
			t.Errorf("%v, %v, %q, %v; wanted %v, %v, %q, %v", q, is, l, is2, asked, going, told, ok)
		}
		if t.Failed() {
			return
		}
	}
}

func TestRunMemory(t *testing.T) {
	r := rand.New(rand.NewSource(1582))
	for range 3000 {
		l, user, explicit, inhibit := drawnChain(r, 4), drawnList(r, 4), maybe(r), maybe(r)
		asked, ok := policy.Run(l, user, explicit, inhibit)
		asked = slices.Clone(asked)
		for i := range l {
			l[i].Policies = roomy(l[i].Policies, 3, each)
		}
		l, user = roomy(l, 2, says("9.9")), roomy(user, 3, each)
		handed := [][]string{user}
		for _, c := range whole(l) {
			handed = append(handed, c.Policies)
		}
		var was [][]string
		for _, x := range handed {
			was = append(was, slices.Clone(whole(x)))
		}
		got, is := policy.Run(l, user, explicit, inhibit)
		again, _ := policy.Run(l, user, explicit, inhibit)
		for _, x := range handed {
			wantApart(t, x, got, again)
		}
		for i, c := range whole(l) {
			if !slices.Equal(whole(c.Policies), was[i+1]) || !slices.Equal(whole(user), was[0]) {
				t.Error("an argument was changed")
			}
		}
		for _, x := range append(handed, again) {
			for i := range whole(x) {
				whole(x)[i] = "9.9"
			}
		}
		if is != ok || !slices.Equal(got, asked) {
			t.Errorf("%q, %v; wanted %q, %v", got, is, asked, ok)
		}
		if t.Failed() {
			return
		}
	}
}

// Lists that share memory when they are handed in.
func TestShared(t *testing.T) {
	l := list("1.2.4", each, "1.2.3", "1.2.3")
	p, c := state(5, 5, l...), says(l...)
	p.Set, c.Policies = l, l
	wantStep(t, p, c, true, state(5, 5, "1.2.3", "1.2.4", each))
	wantEnd(t, p, c, l, list("1.2.3", "1.2.4", each), true)
	wantEnd(t, p, c, l[2:], list("1.2.3"), true)
	wantRun(t, chain(c, c), l[:1], true, true, list("1.2.4"), true)
	if !slices.Equal(l, list("1.2.4", each, "1.2.3", "1.2.3")) {
		t.Errorf("an argument was changed: %q", l)
	}
}

// Nil and empty lists are alike.
func TestNilAndEmpty(t *testing.T) {
	for _, a := range [][]string{nil, {}} {
		for _, b := range [][]string{nil, {}} {
			p, c := state(5, 5), says()
			p.Set, c.Policies = a, b
			wantStep(t, p, c, true, state(5, 5))
			wantStep(t, p, says("1.2.3"), true, state(5, 5))
			wantStep(t, state(5, 5, each), c, true, state(5, 5))
			wantEnd(t, p, c, b, nil, true)
			wantEnd(t, state(0, 0, "1.2.3"), c, b, list("1.2.3"), true)
			p.Explicit = 0
			wantStop(t, p, c, false)
			wantEnd(t, p, c, b, nil, false)
			wantRun(t, chain(c), a, false, false, nil, true)
			wantRun(t, chain(c), a, true, false, nil, false)
		}
	}
}

// What is told hangs on the arguments alone, not on what was asked before.
func TestNothingIsKept(t *testing.T) {
	r := rand.New(rand.NewSource(1583))
	for range 3 {
		wantRun(t, chain(says("1.2.3", "1.2.4")), list("1.2.4", "1.2.5"), true, false, list("1.2.4"), true)
		wantRun(t, chain(says()), nil, true, false, nil, false)
		wantStart(t, 3, false, false, state(4, 4, each))
		for range 300 {
			l, user, explicit, inhibit := drawnChain(r, 5), drawnList(r, 3), maybe(r), maybe(r)
			asked, ok := policy.Run(l, user, explicit, inhibit)
			wantRun(t, drawnChain(r, 5)[:0], user, explicit, inhibit, nil, false)
			wantRun(t, l, user, explicit, inhibit, asked, ok)
		}
	}
}

// No call panics, whatever it is given, and what it answers is what the chapter
// says.
func TestNoPanics(t *testing.T) {
	odd := [][]string{nil, {""}, {"", ""}, {"\xff", "\x00", "a b", strings.Repeat("1.", 10000)}, {each + ".0", each, " " + each}, slices.Repeat(list(each, "1.2.3"), 500)}
	numbers := []int{math.MinInt, math.MinInt + 1, -1, 0, 1, math.MaxInt - 1, math.MaxInt}
	for _, a := range odd {
		for _, b := range odd {
			for i, n := range numbers {
				m := numbers[(i+3)%len(numbers)]
				c := api.Cert{Policies: b, Require: n, Inhibit: m}
				for _, p := range []api.Policy{{}, {Set: a, Explicit: m, Any: n}, {Set: a, Explicit: n, Any: n}} {
					wantModel(t, p, c, false, b)
					wantModel(t, p, c, true, b)
				}
				asked, ok := byHand(chain(c, c), a, n < 0, m < 0)
				wantRun(t, chain(c, c), a, n < 0, m < 0, asked, ok)
			}
			if t.Failed() {
				return
			}
		}
	}
	wantRun(t, make([]api.Cert, 10), nil, false, false, nil, false)
}

// Great lists are gone through in time.
func TestGreatLists(t *testing.T) {
	var l []string
	for i := range 200000 {
		l = append(l, "1.2."+strings.Repeat("3", 1+i%7)+"."+strings.Repeat("4", i%11), each)
	}
	asked := slices.Compact(slices.Sorted(slices.Values(l)))
	wantRun(t, chain(says(l...), says(l...), own(l...)), l, true, false, asked, true)
}
