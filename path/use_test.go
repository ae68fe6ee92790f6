package path_test

import (
	"slices"
	"testing"

	"chirograph/api"
	"chirograph/policy"
)

// P16.3, PathPolicy and PathUse.

func oids(l ...string) []string {
	return l
}

// What is asked of policies is asked of policy.Run, of the whole chain.
func TestPolicies(t *testing.T) {
	users := [][]string{nil, oids("1.2.3"), oids("1.2.4", "1.2.3"), oids(api.AnyPolicy), oids("1.2.9")}
	says := [][]string{nil, oids("1.2.3"), oids("1.2.4", "1.2.3"), oids(api.AnyPolicy)}
	told := map[int]int{}
	anchor, l := line(3)
	for places := range len(says) * len(says) * len(says) {
		m := slices.Clone(l)
		for i := range m {
			m[i].Policies = says[places%len(says)]
			places /= len(says)
		}
		for bits := range 32 {
			m[0].Require, m[1].Inhibit = bits>>2&1-1, bits>>3&1-1
			if bits>>4&1 == 1 {
				m[1].Issuer = m[1].Subject
			}
			for _, user := range users {
				ask := asked()
				ask.User, ask.Explicit, ask.Inhibit = user, bits&1 == 1, bits>>1&1 == 1
				want := api.PathPolicy
				if _, ok := policy.Run(m, user, ask.Explicit, ask.Inhibit); ok {
					want = api.Accept
				}
				wantCheck(t, "policies", anchor, m, nil, ask, want)
				told[want]++
			}
			m[1].Issuer = l[1].Issuer
		}
	}
	if told[api.Accept] < 1000 || told[api.PathPolicy] < 1000 {
		t.Error(told)
	}
}

func TestPoliciesOfLines(t *testing.T) {
	anchor, l := line(3)
	ask := asked()
	ask.Explicit = true
	wantCheck(t, "explicit, of none", anchor, l, nil, ask, api.PathPolicy)
	for i := range l {
		l[i].Policies = oids("1.2.3", "1.2.4")
	}
	wantCheck(t, "explicit, of some", anchor, l, nil, ask, api.Accept)
	ask.User = oids("1.2.4")
	wantCheck(t, "one that holds", anchor, l, nil, ask, api.Accept)
	ask.User = oids("1.2.5")
	wantCheck(t, "one that does not hold", anchor, l, nil, ask, api.PathPolicy)
	ask.Explicit = false
	wantCheck(t, "one that does not hold, if it need not", anchor, l, nil, ask, api.Accept)
	l[0].Policies, ask.User, ask.Explicit = oids(api.AnyPolicy), nil, true
	wantCheck(t, "any", anchor, l, nil, ask, api.Accept)
	ask.Inhibit = true
	wantCheck(t, "any, inhibited", anchor, l, nil, ask, api.PathPolicy)
}

func TestUse(t *testing.T) {
	const a, b = "1.3.6.1.5.5.7.3.4", "1.3.6.1.5.5.7.3.8"
	for _, x := range []struct {
		use        string
		eku        []string
		loose      int // neither Only nor EkuMust plays a part
		only, must int // Only; Only, and EkuMust
	}{
		{"", nil, api.Accept, api.Accept, api.Accept}, {"", oids(a), api.Accept, api.Accept, api.Accept}, {"", oids(""), api.Accept, api.Accept, api.Accept},
		{a, nil, api.Accept, api.PathUse, api.PathUse}, {a, oids(), api.Accept, api.PathUse, api.PathUse}, {a, oids(a), api.Accept, api.PathUse, api.Accept}, {a, oids(b), api.PathUse, api.PathUse, api.PathUse},
		{a, oids(b, a), api.Accept, api.PathUse, api.PathUse}, {a, oids(a, b), api.Accept, api.PathUse, api.PathUse}, {a, oids(b, b), api.PathUse, api.PathUse, api.PathUse}, {a, oids(a, a), api.Accept, api.PathUse, api.PathUse},
		{a, oids(api.AnyUse), api.Accept, api.PathUse, api.PathUse}, {a, oids(b, api.AnyUse), api.Accept, api.PathUse, api.PathUse}, {a, oids(a, api.AnyUse), api.Accept, api.PathUse, api.PathUse},
		{a, oids(""), api.PathUse, api.PathUse, api.PathUse}, {a, oids(a + ".1"), api.PathUse, api.PathUse, api.PathUse}, {a, oids(" " + a), api.PathUse, api.PathUse, api.PathUse}, {a, oids(api.AnyPolicy), api.PathUse, api.PathUse, api.PathUse},
		{api.AnyUse, oids(a), api.PathUse, api.PathUse, api.PathUse}, {api.AnyUse, oids(api.AnyUse), api.Accept, api.PathUse, api.Accept}, {api.AnyUse, nil, api.Accept, api.PathUse, api.PathUse},
	} {
		for bits := range 4 {
			only, must := bits&1 == 1, bits&2 == 2
			ask := asked()
			ask.Use, ask.Only = x.use, only
			want := x.loose
			if only && must {
				want = x.must
			} else if only {
				want = x.only
			}
			for n := 1; n <= 3; n++ {
				wantLine(t, "use "+x.use, n, n-1, func(c *api.Cert) { c.Eku, c.EkuMust = x.eku, must }, ask, want)
			}
		}
	}
}

// What those above the leaf say plays no part.
func TestUseOfTheLeafAlone(t *testing.T) {
	const a = "1.3.6.1.5.5.7.3.4"
	anchor, l := line(3)
	l[2].Eku, l[2].EkuMust = oids(a), true
	for _, eku := range [][]string{nil, oids("1.2"), oids(a), oids(api.AnyUse)} {
		for i := range 2 {
			m := changed(l, i, func(c *api.Cert) { c.Eku, c.EkuMust = eku, true })
			for _, only := range []bool{false, true} {
				ask := asked()
				ask.Use, ask.Only = a, only
				wantCheck(t, "use", anchor, m, nil, ask, api.Accept)
				ask.Use = "1.2"
				wantCheck(t, "use", anchor, m, nil, ask, api.PathUse)
			}
		}
	}
}
