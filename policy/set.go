package policy

import (
	"slices"

	"chirograph/api"
)

// set has policies.
type set map[string]struct{}

func setOf(l []string) set {
	s := make(set, len(l))
	for _, x := range l {
		s[x] = struct{}{}
	}
	return s
}

func (s set) has(x string) bool {
	_, ok := s[x]
	return ok
}

// admitted tells those of a list that are in s, or all of them, if AnyPolicy is.
// AnyPolicy itself is none of them: it does not name one.
func (s set) admitted(l []string) []string {
	all := s.has(api.AnyPolicy)
	var m []string
	for _, x := range l {
		if x != api.AnyPolicy && (all || s.has(x)) {
			m = append(m, x)
		}
	}
	return m
}

// sorted tells a list in the order of its bytes, each once. It works on a copy,
// since lists that are handed in stay as they are.
func sorted(l []string) []string {
	m := make([]string, len(l))
	copy(m, l)
	slices.Sort(m)
	return slices.Compact(m)
}
