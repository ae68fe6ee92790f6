package path

import (
	"slices"

	"chirograph/api"
	"chirograph/cert"
	"chirograph/name"
)

// climber looks for a family's chains, from the leaf upwards.
type climber struct {
	family
	above [][]int // by place: those that count of whom it may have come
}

func newClimber(f family) climber {
	return climber{f, f.issuers()}
}

// issuers tells of each member but the anchors who may have issued it.
func (f family) issuers() [][]int {
	bySubject := map[string][]int{} // so that not all names are held against all
	for _, up := range f.counting() {
		k := name.Key(f.members[up].Subject)
		bySubject[k] = append(bySubject[k], up)
	}
	above := make([][]int, len(f.members))
	for low := f.anchors; low < len(f.members); low++ {
		c := f.members[low]
		for _, up := range bySubject[name.Key(c.Issuer)] {
			if cert.Issues(f.members[up], c) {
				above[low] = append(above[low], up)
			}
		}
	}
	return above
}

// chains tells all of them, or, if there are more than MaxChains, one too many.
func (c climber) chains() [][]int {
	var found [][]int
	var climb func(line []int)
	climb = func(line []int) {
		far := c.far(line)
	issuers:
		for _, up := range c.above[line[len(line)-1]] {
			longer := append(line, up)
			switch {
			case len(found) > api.MaxChains:
				break issuers
			case up < c.anchors:
				found = append(found, c.chain(longer))
			case far[up] > 0:
				climb(longer)
			}
		}
	}
	climb([]int{c.leaf()})
	slices.SortFunc(found, slices.Compare[[]int])
	return found
}

// far tells of each member how many stand in the shortest line from an anchor
// down to it, both of them among these, that may be put above the line that is
// climbed: it has nobody in common with it, and both are not too long; 0, if there
// is none. So no climb is in vain, and they end soon, however many members may
// have issued one another.
func (c climber) far(line []int) []int {
	far := make([]int, len(c.members))
	for up := range c.anchors {
		far[up] = 1
	}
	for n := 1; n <= api.MaxPath-len(line); n++ {
		for low := c.anchors; low < c.leaf(); low++ {
			if far[low] == 0 && !slices.Contains(line, low) && c.below(low, far, n) {
				far[low] = n + 1
			}
		}
	}
	return far
}

// below: may one that is so far have issued a member?
func (c climber) below(low int, far []int, n int) bool {
	return slices.ContainsFunc(c.above[low], func(up int) bool { return far[up] == n })
}
