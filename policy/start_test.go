package policy_test

import (
	"math"
	"testing"

	"chirograph/api"
	"chirograph/policy"
)

// P15.1

func TestStart(t *testing.T) {
	for _, x := range []struct{ n, asked int }{
		{math.MinInt, 1}, {-1000, 1}, {-1, 1}, {0, 1}, {1, 2}, {2, 3}, {3, 4}, {4, 5}, {5, 6}, {6, 7},
		{api.MaxPath - 1, 8}, {api.MaxPath, 9}, {api.MaxPath + 1, 9}, {20, 9}, {1 << 40, 9}, {math.MaxInt - 1, 9}, {math.MaxInt, 9},
	} {
		wantStart(t, x.n, false, false, state(x.asked, x.asked, each))
		wantStart(t, x.n, true, false, state(0, x.asked, each))
		wantStart(t, x.n, false, true, state(x.asked, 0, each))
		wantStart(t, x.n, true, true, state(0, 0, each))
	}
}

// What is answered is new memory each time.
func TestStartMemory(t *testing.T) {
	p, q := policy.Start(1, false, false), policy.Start(1, false, false)
	wantApart(t, p, q)
	for i := range whole(p.Set) {
		whole(p.Set)[i] = "x"
	}
	wantStart(t, 1, false, false, state(2, 2, each))
	if q.Set[0] != each {
		t.Error("an answer changed with another one")
	}
}
