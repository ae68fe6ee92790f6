package policy_test

import (
	"math"
	"testing"

	"chirograph/api"
)

// P15.3

// Which policies are told, whatever is explicit.
func TestEndSet(t *testing.T) {
	for _, x := range []struct{ set, user, asked []string }{
		{list("1.2.3"), nil, list("1.2.3")},
		{list(each), nil, list(each)},
		{list("1.2.4", "1.2.3", "1.2.4"), nil, list("1.2.3", "1.2.4")},
		{list(each, "1.2.3"), nil, list("1.2.3", each)},
		{list("1.2.4", "1.2.3", "1.2.4"), list(each), list("1.2.3", "1.2.4")},
		{list("1.2.4", "1.2.3"), list("1.2.5", each), list("1.2.3", "1.2.4")},
		{list(each, "1.2.3"), list("1.2.5", each, "1.2.3"), list("1.2.3", each)},
		{list(each), list(each), list(each)},
		{list(each), list("1.2.5"), list("1.2.5")},
		{list(each), list("1.2.5", "1.2.4", "1.2.5"), list("1.2.4", "1.2.5")},
		{list("1.2.3", each), list("1.2.5", "1.2.4"), list("1.2.4", "1.2.5")},
		{list("1.2.3"), list("1.2.3"), list("1.2.3")},
		{list("1.2.4", "1.2.3"), list("1.2.5", "1.2.4"), list("1.2.4")},
		{list("1.2.4", "1.2.3", "1.2.5"), list("1.2.5", "1.2.4", "1.2.5", "1.2.6"), list("1.2.4", "1.2.5")},
		{list("", "1"), list(""), list("")},
		{list("10", "9", "1.10", "1.2", "a", "A"), nil, list("1.10", "1.2", "10", "9", "A", "a")},
		{list(each), list("10", "9", "1.10", "1.2", "a", "A"), list("1.10", "1.2", "10", "9", "A", "a")},
		{list("9", "10", "1.2", "1.10", "A", "a"), list("10", "9", "1.10", "1.2", "a", "A"), list("1.10", "1.2", "10", "9", "A", "a")},
	} {
		for _, explicit := range []int{math.MinInt, -1, 0, 1, 2, math.MaxInt} {
			for _, require := range []int{-1, 0, 1} {
				wantEnd(t, state(explicit, 0, x.set...), with(says(), require, -1), x.user, x.asked, true)
			}
		}
	}
}

// Nothing is held by both, or nothing holds: that is as good as Explicit is.
func TestEndNothing(t *testing.T) {
	for _, x := range []struct{ set, user []string }{
		{nil, nil}, {nil, list(each)}, {nil, list("1.2.3")}, {nil, list("1.2.3", each)},
		{list("1.2.3"), list("1.2.4")}, {list("1.2.3"), list("1.2")}, {list("1.2"), list("1.2.3")}, {list("1.2.3", "1.2.4"), list("1.2.5", "")},
	} {
		for _, y := range []struct {
			explicit, require int
			ok                bool
		}{
			{math.MinInt, -1, false}, {-1, -1, false}, {0, -1, false}, {1, -1, false}, {2, -1, true}, {3, -1, true}, {9, -1, true}, {math.MaxInt, -1, true},
			{-1, 0, false}, {0, 0, false}, {1, 0, false}, {2, 0, false}, {9, 0, false}, {math.MaxInt, 0, false},
			{0, 1, false}, {1, 1, false}, {2, 1, true}, {9, 1, true}, {9, 2, true}, {2, -2, true}, {1, math.MaxInt, false}, {2, math.MinInt, true},
		} {
			wantEnd(t, state(y.explicit, 9, x.set...), with(says("1.2.3"), y.require, 0), x.user, nil, y.ok)
			wantEnd(t, state(y.explicit, 0, x.set...), with(own(each), y.require, 9), x.user, nil, y.ok)
		}
	}
}

// Of the certificate just Require counts: its policies, its names, its Inhibit,
// and the Any of what it is given play no part.
func TestEndOtherFields(t *testing.T) {
	for _, left := range []int{-1, 0, 1, 9} {
		for _, c := range []api.Cert{says(), says("1.2.4"), says(each), own(), own("1.2.3"), own(each), with(own(each), -1, 0), with(says("1.2.4"), 2, 3)} {
			wantEnd(t, state(0, left, "1.2.3"), c, list("1.2.3", "1.2.4"), list("1.2.3"), true)
			wantEnd(t, state(1, left, "1.2.3"), c, list("1.2.4"), nil, false)
			wantEnd(t, state(2, left, "1.2.3"), c, list("1.2.4"), nil, true)
		}
	}
}
