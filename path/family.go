package path

import (
	"slices"

	"chirograph/api"
)

// family has all certificates that chains are made of, told apart by their
// places: first the anchors, then those that may help, and last the leaf. A line
// is a row of places, each one's issuer ahead of it: from an anchor to the leaf.
type family struct {
	anchors int
	members []api.Cert
}

func newFamily(leaf api.Cert, anchors, certs []api.Cert) family {
	return family{len(anchors), slices.Concat(anchors, certs, []api.Cert{leaf})}
}

func (f family) leaf() int {
	return len(f.members) - 1
}

// whole is the line of all members.
func (f family) whole() []int {
	l := make([]int, len(f.members))
	for i := range l {
		l[i] = i
	}
	return l
}

// line tells a chain's line. A chain counts its certificates from the first one
// behind the anchors, and leaves the leaf out.
func (f family) line(chain []int) []int {
	l := slices.Clone(chain)
	for i := range l[1:] {
		l[1+i] += f.anchors
	}
	return append(l, f.leaf())
}

// chain tells a line's chain; the line is climbed, the leaf being its first one.
func (f family) chain(climbed []int) []int {
	l := slices.Clone(climbed[1:])
	slices.Reverse(l)
	for i := range l[1:] {
		l[1+i] -= f.anchors
	}
	return l
}

// certs has the members of a line.
func (f family) certs(line []int) []api.Cert {
	l := make([]api.Cert, len(line))
	for i, at := range line {
		l[i] = f.members[at]
	}
	return l
}

// identity is by what members count as one and the same. An anchor may stand
// among those that may help, too, and is another one there.
type identity struct {
	anchor bool
	raw    string
}

// counting tells the places of those that may stand above others: the first one
// of each identity, and none that is the leaf.
func (f family) counting() []int {
	seen := map[identity]struct{}{{raw: string(f.members[f.leaf()].Raw)}: {}}
	var l []int
	for i, c := range f.members[:f.leaf()] {
		id := identity{i < f.anchors, string(c.Raw)}
		if _, ok := seen[id]; !ok {
			seen[id] = struct{}{}
			l = append(l, i)
		}
	}
	return l
}
