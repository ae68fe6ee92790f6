package policy

import (
	"chirograph/api"
	"chirograph/cert"
)

// held tells which of the policies ahead of c, or of its own ones, hold below it.
func held(p api.Policy, c api.Cert, last bool) []string {
	l := setOf(p.Set).admitted(c.Policies)
	if setOf(c.Policies).has(api.AnyPolicy) && anyCounts(p, c, last) {
		l = append(l, p.Set...)
	}
	return sorted(l)
}

// anyCounts: does c let each policy through, if it says so? One that an issuer
// gave to itself may, whatever was inhibited, unless it is the last one.
func anyCounts(p api.Policy, c api.Cert, last bool) bool {
	return p.Any > 0 || !last && cert.Own(c)
}

// granted tells which of those that hold at the end were asked for.
func granted(l, user []string) []string {
	if len(user) == 0 || setOf(user).has(api.AnyPolicy) {
		return sorted(l)
	}
	return sorted(setOf(l).admitted(user))
}

// oneLess counts down, but what counts no more stays as it is.
func oneLess(n int) int {
	if n > 0 {
		return n - 1
	}
	return n
}

// bounded: below 0 a bound is one that nothing says.
func bounded(n, bound int) int {
	if bound >= 0 && bound < n {
		return bound
	}
	return n
}
