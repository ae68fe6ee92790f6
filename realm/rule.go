package realm

import (
	"iter"

	"chirograph/api"
	"chirograph/name"
)

// rule is how names of one kind are held against bases of that kind.
type rule struct {
	kind  int
	holds func(g, base api.Gen) bool
}

// ruleOf picks a kind's rule; ok: is it one of the four kinds that have one?
func ruleOf(kind int) (r rule, ok bool) {
	switch kind {
	case api.GenMail:
		r.holds = func(g, base api.Gen) bool { return Mail(g.Text, base.Text) }
	case api.GenDns:
		r.holds = func(g, base api.Gen) bool { return Host(g.Text, base.Text) }
	case api.GenDir:
		r.holds = func(g, base api.Gen) bool { return name.Within(g.Dir, base.Dir) }
	case api.GenIp:
		r.holds = func(g, base api.Gen) bool { return Net(g.Ip, base.Ip) }
	default:
		return rule{}, false
	}
	r.kind = kind
	return r, true
}

func (r rule) match(g, base api.Gen) bool {
	return base.Kind == r.kind && r.holds(g, base)
}

func (r rule) matchesOne(g api.Gen, bases []api.Gen) bool {
	for _, base := range bases {
		if r.match(g, base) {
			return true
		}
	}
	return false
}

// bounds: is there a base of the rule's kind?
func (r rule) bounds(bases []api.Gen) bool {
	for _, base := range bases {
		if base.Kind == r.kind {
			return true
		}
	}
	return false
}

// ruled tells the names that have a rule, each with it, for as long as one asks.
// Names of other kinds are bounded by nothing.
func ruled(names []api.Gen) iter.Seq2[api.Gen, rule] {
	return func(yield func(api.Gen, rule) bool) {
		for _, g := range names {
			if r, ok := ruleOf(g.Kind); ok && !yield(g, r) {
				return
			}
		}
	}
}
