package policy_test

import (
	"math"
	"testing"

	"chirograph/api"
)

// P15.2

// What the new Set is. It does not hang on whether a certificate is the last one,
// but where AnyPolicy counts of one's own.
func TestStepSet(t *testing.T) {
	for _, x := range []struct{ ahead, said, asked []string }{
		{list(each), nil, nil},
		{list("1.2.3"), nil, nil},
		{nil, list("1.2.3"), nil},
		{nil, list(each), nil},
		{nil, list(each, "1.2.3"), nil},
		{nil, nil, nil},
		{list(each), list("1.2.3"), list("1.2.3")},
		{list("1.2.3"), list("1.2.3"), list("1.2.3")},
		{list("1.2.4"), list("1.2.3"), nil},
		{list("1.2"), list("1.2.3"), nil},
		{list("1.2.3.0"), list("1.2.3"), nil},
		{list("1.2.3", "1.2.4"), list("1.2.4", "1.2.5"), list("1.2.4")},
		{list("1.2.3", "1.2.4"), list("1.2.4", "1.2.3"), list("1.2.3", "1.2.4")},
		{list("1.2.3", each), list("1.2.4"), list("1.2.4")},
		{list("1.2.3", each), list("1.2.4", "1.2.3"), list("1.2.3", "1.2.4")},
		{list(each), list("1.2.4", "1.2.3", "1.2.4"), list("1.2.3", "1.2.4")},
		{list("1.2.4", "1.2.3", "1.2.4"), list("1.2.4", "1.2.4"), list("1.2.4")},
	} {
		for _, left := range []int{-1, 0, 1} {
			p := state(5, left, x.ahead...)
			wantStep(t, p, says(x.said...), true, state(5, left, x.asked...))
			wantStep(t, p, own(x.said...), true, state(5, left, x.asked...))
			wantStep(t, p, own(x.said...), false, state(5, left, x.asked...))
		}
		p := state(5, 1, x.ahead...)
		wantStep(t, p, says(x.said...), false, state(4, 0, x.asked...))
	}
}

// AnyPolicy of a certificate: all of the Set ahead, too, if it counts.
func TestStepAny(t *testing.T) {
	for _, x := range []struct{ ahead, said, counted, barred []string }{
		{list(each), list(each), list(each), nil},
		{list(each), list(each, each), list(each), nil},
		{list("1.2.3"), list(each), list("1.2.3"), nil},
		{list("1.2.4", "1.2.3", "1.2.4"), list(each), list("1.2.3", "1.2.4"), nil},
		{list("1.2.3", each), list(each), list("1.2.3", each), nil},
		{list(each), list(each, "1.2.3"), list("1.2.3", each), list("1.2.3")},
		{list(each), list("1.2.3", each), list("1.2.3", each), list("1.2.3")},
		{list("1.2.3", "1.2.4"), list("1.2.4", each, "1.2.5"), list("1.2.3", "1.2.4"), list("1.2.4")},
		{list("1.2.3"), list("1.2.5", each), list("1.2.3"), nil},
		{list("1.2.3", each), list("1.2.5", each), list("1.2.3", "1.2.5", each), list("1.2.5")},
		{list("2.5.29.32", "3"), list(each), list("2.5.29.32", "3"), nil},
	} {
		for _, left := range []int{math.MinInt, -1, 0} {
			p := state(5, left, x.ahead...)
			wantStep(t, p, says(x.said...), true, state(5, left, x.barred...))
			wantStep(t, p, says(x.said...), false, state(4, left, x.barred...))
			wantStep(t, p, own(x.said...), true, state(5, left, x.barred...))
			wantStep(t, p, own(x.said...), false, state(5, left, x.counted...))
		}
		for _, left := range []int{1, 2, 9, math.MaxInt} {
			p := state(5, left, x.ahead...)
			wantStep(t, p, says(x.said...), true, state(5, left, x.counted...))
			wantStep(t, p, says(x.said...), false, state(4, left-1, x.counted...))
			wantStep(t, p, own(x.said...), true, state(5, left, x.counted...))
			wantStep(t, p, own(x.said...), false, state(5, left, x.counted...))
		}
	}
}

// One's own that does not say AnyPolicy lets through no more than others do.
func TestStepOwnWithoutAny(t *testing.T) {
	p := state(5, 0, "1.2.3", "1.2.4", each)
	wantStep(t, p, own("1.2.3"), false, state(5, 0, "1.2.3"))
	wantStep(t, p, own(), false, state(5, 0))
	wantStop(t, state(0, 0, "1.2.3"), own(), false)
	wantStop(t, state(0, 9, "1.2.3"), own("1.2.4"), false)
}

// The new Set is sorted by bytes: not by numbers, not by lengths.
func TestStepSorted(t *testing.T) {
	asked := list("", "1.10", "1.2", "1.2.10", "1.2.3", "10", "2.5.29.32", each, "2.5.29.4", "9", "A", "a", "\u00e4", "\xff")
	var back []string
	for i := len(asked) - 1; i >= 0; i-- {
		back = append(back, asked[i], asked[i])
	}
	wantStep(t, state(0, 1, each), says(back...), true, state(0, 1, asked...))
	wantStep(t, state(0, 1, back...), says(each), true, state(0, 1, asked...))
	wantStep(t, state(0, 1, back...), own(back...), false, state(0, 1, asked...))
}

// Nothing in the new Set: true, as long as Explicit is above 0.
func TestStepStops(t *testing.T) {
	for _, explicit := range []int{math.MinInt, -1, 0} {
		for _, last := range []bool{false, true} {
			for _, c := range []api.Cert{says(), says("1.2.4"), own(), own("1.2.4"), with(says(), 5, 5), with(says(), 0, 0), with(says(), -1, 0)} {
				wantStop(t, state(explicit, 9, "1.2.3"), c, last)
				wantStop(t, state(explicit, 0, "1.2.3"), c, last)
			}
			wantStop(t, state(explicit, 9), says("1.2.3"), last)
			wantStop(t, state(explicit, 9), own(each), last)
			wantStop(t, state(explicit, 9, each), says(), last)
			wantStop(t, state(explicit, 0, each), says(each), last)
			wantStep(t, state(explicit, 0, each), says("1.2.3"), last, state(explicit, 0, "1.2.3"))
			wantStep(t, state(explicit, 0, "1.2.3"), own("1.2.3"), last, state(explicit, 0, "1.2.3"))
		}
		wantStop(t, state(explicit, 0, each), own(each), true)
		wantStep(t, state(explicit, 0, each), own(each), false, state(explicit, 0, each))
	}
	wantStep(t, state(1, 9, "1.2.3"), says(), true, state(1, 9))
	wantStep(t, state(1, 9, "1.2.3"), says("1.2.4"), false, state(0, 8))
	wantStep(t, state(1, 9), own(), false, state(1, 9))
}

// Explicit is looked at as it came, ahead of what the certificate bounds.
func TestStepStopsByWhatCame(t *testing.T) {
	wantStep(t, state(1, 9, "1.2.3"), with(says(), 0, 0), false, state(0, 0))
	wantStep(t, state(1, 9, "1.2.3"), with(own(), 0, 0), false, state(0, 0))
	wantStep(t, state(1, 9, "1.2.3"), with(says(), 0, 0), true, state(1, 9))
}

// Both numbers, behind a certificate that is not the last one.
func TestStepNumbers(t *testing.T) {
	for _, x := range []struct{ n, bound, asked, own int }{
		{0, -1, 0, 0}, {1, -1, 0, 1}, {2, -1, 1, 2}, {9, -1, 8, 9}, {-1, -1, -1, -1}, {-7, -1, -7, -7}, {math.MaxInt, -1, math.MaxInt - 1, math.MaxInt}, {math.MinInt, -1, math.MinInt, math.MinInt},
		{0, 0, 0, 0}, {1, 0, 0, 0}, {2, 0, 0, 0}, {9, 0, 0, 0}, {-1, 0, -1, -1}, {math.MaxInt, 0, 0, 0},
		{0, 1, 0, 0}, {1, 1, 0, 1}, {2, 1, 1, 1}, {3, 1, 1, 1}, {9, 1, 1, 1}, {-1, 1, -1, -1},
		{3, 2, 2, 2}, {4, 2, 2, 2}, {3, 3, 2, 3}, {4, 3, 3, 3}, {4, 4, 3, 4}, {4, 5, 3, 4}, {9, 1000, 8, 9}, {9, math.MaxInt, 8, 9}, {math.MaxInt, math.MaxInt, math.MaxInt - 1, math.MaxInt},
		{4, -2, 3, 4}, {4, math.MinInt, 3, 4}, {-5, -2, -5, -5}, {-2, -5, -2, -2}, {0, -5, 0, 0},
	} {
		c, o := says("1.2.3"), own("1.2.3")
		wantStep(t, state(x.n, 5, each), with(c, x.bound, -1), false, state(x.asked, 4, "1.2.3"))
		wantStep(t, state(x.n, 5, each), with(o, x.bound, -1), false, state(x.own, 5, "1.2.3"))
		wantStep(t, state(5, x.n, each), with(c, -1, x.bound), false, state(4, x.asked, "1.2.3"))
		wantStep(t, state(5, x.n, each), with(o, -1, x.bound), false, state(5, x.own, "1.2.3"))
	}
}

// Behind the last one both numbers are as they were.
func TestStepNumbersOfTheLast(t *testing.T) {
	for _, n := range []int{math.MinInt, -1, 0, 1, 5, math.MaxInt} {
		for _, bound := range []int{-1, 0, 1, 3, 9} {
			wantStep(t, state(n, 5, each), with(says("1.2.3"), bound, bound), true, state(n, 5, "1.2.3"))
			wantStep(t, state(5, n, each), with(own("1.2.3"), bound, bound), true, state(5, n, "1.2.3"))
		}
	}
}

// Own is asked of the names, as chapter 7 compares them, and of nothing else.
func TestStepOwnByNames(t *testing.T) {
	c := says("1.2.3")
	for _, x := range []struct {
		issuer, subject [][]api.Atv
		own             bool
	}{
		{nil, nil, true}, {[][]api.Atv{}, nil, true}, {org("a"), org("A"), true}, {org("a"), org("  a"), true},
		{org("a"), nil, false}, {nil, org("a"), false}, {org("a"), org("b"), false}, {append(org("a"), org("b")...), org("a"), false},
	} {
		c.Issuer, c.Subject = x.issuer, x.subject
		asked := state(4, 4, "1.2.3")
		if x.own {
			asked = state(5, 5, "1.2.3")
		}
		wantStep(t, state(5, 5, each), c, false, asked)
	}
}

// What else a certificate has plays no part.
func TestStepOtherFields(t *testing.T) {
	c := says("1.2.3")
	c.Raw, c.Ca, c.Below, c.Usage, c.Eku, c.Ski, c.Aki, c.Unknown = []byte{1}, true, 0, 0, list(each), []byte{1}, []byte{1}, true
	wantStep(t, state(5, 5, each), c, false, state(4, 4, "1.2.3"))
}
