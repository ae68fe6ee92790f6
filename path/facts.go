package path

import (
	"bytes"
	"slices"

	"chirograph/api"
	"chirograph/cert"
	"chirograph/crl"
	"chirograph/realm"
)

// fact is what may hold of two that are at hand, told by their places.
type fact struct {
	kind, one, other int
}

// The kinds of facts.
const (
	signsCert = iota // a member's key is the one that another one was signed by
	signsList        // a member's key is the one that a list was signed by
	allows           // a member lets another one's names stand below it
	tellsGone        // a list tells that a member counts no more
)

// holds works out a fact, but each one once: lines share their members, and to
// verify is dear.
func (c *court) holds(f fact, work func() bool) bool {
	n, ok := c.known[f]
	if !ok {
		if work() {
			n = 1
		}
		c.known[f] = n
	}
	return n == 1
}

// forged: is a member not signed by the key of the one above it?
func (c *court) forged(up, low int) bool {
	return !c.holds(fact{signsCert, up, low}, func() bool {
		return cert.Signed(c.members[low], c.members[up].Key) == api.OK
	})
}

func (c *court) signedList(up, list int) bool {
	return c.holds(fact{signsList, up, list}, func() bool {
		return crl.Signed(c.fresh[list], c.members[up].Key) == api.OK
	})
}

func (c *court) allowed(up, low int) bool {
	return c.holds(fact{allows, up, low}, func() bool {
		bounds := c.members[up]
		return realm.Allowed(realm.Names(c.members[low]), bounds.Permitted, bounds.Excluded)
	})
}

// tells asks all that a list has of a certificate: some may not count yet.
func (c *court) tells(list, low int) bool {
	return c.holds(fact{tellsGone, list, low}, func() bool {
		return slices.ContainsFunc(c.fresh[list].Gone, func(g api.Gone) bool {
			return bytes.Equal(g.Serial, c.members[low].Serial) && crl.Counts(g, c.ask.At, c.ask.Late)
		})
	})
}
