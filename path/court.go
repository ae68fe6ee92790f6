package path

import (
	"slices"

	"chirograph/api"
	"chirograph/cert"
	"chirograph/policy"
)

// court judges lines of a family.
type court struct {
	family
	lists
	ask   api.Ask
	known map[fact]int
}

func newCourt(f family, crls []api.Crl, ask api.Ask) *court {
	return &court{f, newLists(crls, ask.Now), ask, map[fact]int{}}
}

// judge tells the first thing that is wrong with a line, or Accept.
func (c *court) judge(line []int) int {
	chain := c.certs(line[1:])
	issuers, leaf := chain[:len(chain)-1], chain[len(chain)-1]
	switch {
	case anyLink(line, c.forged):
		return api.PathSig
	case slices.ContainsFunc(chain, c.untimely):
		return api.PathTime
	case slices.ContainsFunc(chain, isUnknown):
		return api.PathExts
	case slices.ContainsFunc(issuers, isNoCa):
		return api.PathCa
	case tooLong(chain):
		return api.PathLong
	case slices.ContainsFunc(issuers, issuesNone) || signsNothing(leaf):
		return api.PathUsage
	case c.outside(line):
		return api.PathNames
	case !c.held(chain):
		return api.PathPolicy
	case c.otherUse(leaf):
		return api.PathUse
	case anyLink(line, c.gone):
		return api.PathRevoked
	case c.ask.Hard && anyLink(line, c.unspoken):
		return api.PathStatus
	}
	return api.Accept
}

// anyLink: does something hold of one of a line's members below the anchor, and
// of the one above it?
func anyLink(line []int, holds func(up, low int) bool) bool {
	for i, low := range line[1:] {
		if holds(line[i], low) {
			return true
		}
	}
	return false
}

func (c *court) untimely(x api.Cert) bool {
	return c.ask.At < x.From || x.Until < c.ask.At
}

func isUnknown(x api.Cert) bool {
	return x.Unknown
}

func isNoCa(x api.Cert) bool {
	return !x.Ca
}

// tooLong counts, from the leaf upwards, those that are not their own issuers.
func tooLong(chain []api.Cert) bool {
	if len(chain) > api.MaxPath {
		return true
	}
	others := 0
	for i := len(chain) - 2; i >= 0; i-- {
		c := chain[i]
		if c.Below >= 0 && c.Below < others {
			return true
		}
		if !cert.Own(c) {
			others++
		}
	}
	return false
}

func issuesNone(x api.Cert) bool {
	return !serves(x, api.UseCertSign)
}

func signsNothing(x api.Cert) bool {
	return !serves(x, api.UseSign|api.UseContent)
}

// serves: is a key for one of some uses? Where nothing is said, it is for all.
func serves(x api.Cert, uses int) bool {
	return x.Usage == -1 || x.Usage&uses != 0
}

// outside: has one a name that may not stand below one above it? The names of one
// that issued itself, ahead of the leaf, do not count.
func (c *court) outside(line []int) bool {
	for i := 1; i < len(line); i++ {
		low := line[i]
		if i < len(line)-1 && cert.Own(c.members[low]) {
			continue
		}
		if slices.ContainsFunc(line[1:i], func(up int) bool { return !c.allowed(up, low) }) {
			return true
		}
	}
	return false
}

// held: is there a policy, where there must be one?
func (c *court) held(chain []api.Cert) bool {
	_, ok := policy.Run(chain, c.ask.User, c.ask.Explicit, c.ask.Inhibit)
	return ok
}

// otherUse: is the leaf for other uses than the one that is asked for?
func (c *court) otherUse(leaf api.Cert) bool {
	use, l := c.ask.Use, leaf.Eku
	switch {
	case use == "":
		return false
	case c.ask.Only:
		return !leaf.EkuMust || len(l) != 1 || l[0] != use
	}
	return len(l) > 0 && !slices.Contains(l, use) && !slices.Contains(l, api.AnyUse)
}
