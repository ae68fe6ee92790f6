package path

import (
	"slices"

	"chirograph/api"
	"chirograph/crl"
	"chirograph/name"
)

// lists has those that may speak of somebody, and by their issuers' names the
// places of them.
type lists struct {
	fresh    []api.Crl
	byIssuer map[string][]int
}

func newLists(crls []api.Crl, now int) lists {
	l := lists{byIssuer: map[string][]int{}}
	for _, x := range crls {
		if !x.Unknown && crl.Fresh(x, now) {
			k := name.Key(x.Issuer)
			l.byIssuer[k] = append(l.byIssuer[k], len(l.fresh))
			l.fresh = append(l.fresh, x)
		}
	}
	return l
}

// speaking tells the lists of a member's issuer, if the one above it may sign
// any. Whether that one signed these is still to be asked.
func (c *court) speaking(up, low int) []int {
	if up >= c.anchors && !serves(c.members[up], api.UseCrlSign) {
		return nil
	}
	return c.byIssuer[name.Key(c.members[low].Issuer)]
}

// unspoken: is a member one of which no list speaks?
func (c *court) unspoken(up, low int) bool {
	return !slices.ContainsFunc(c.speaking(up, low), func(list int) bool { return c.signedList(up, list) })
}

// gone: does a list that speaks of a member tell that it counts no more?
func (c *court) gone(up, low int) bool {
	return slices.ContainsFunc(c.speaking(up, low), func(list int) bool {
		return c.tells(list, low) && c.signedList(up, list)
	})
}
