package realm

import (
	"bytes"
	"iter"

	"chirograph/api"
	"chirograph/text"
)

// oidMail is the Type of a subject's parts that are addresses of mail.
const oidMail = "1.2.840.113549.1.9.1"

func isMail(g api.Gen) bool {
	return g.Kind == api.GenMail
}

// mails tells the addresses in a name, for as long as one asks.
func mails(n [][]api.Atv) iter.Seq[api.Gen] {
	return func(yield func(api.Gen) bool) {
		for _, set := range n {
			for _, x := range set {
				if g, ok := mailOf(x); ok && !yield(g) {
					return
				}
			}
		}
	}
}

// mailOf has the address that a part says, if it says one.
func mailOf(x api.Atv) (g api.Gen, ok bool) {
	if x.Type != oidMail {
		return api.Gen{}, false
	}
	s, e := text.Text(x.Tag, x.Data)
	if e != api.OK {
		return api.Gen{}, false
	}
	return api.Gen{Kind: api.GenMail, Text: s}, true
}

func copyGen(g api.Gen) api.Gen {
	g.Ip = bytes.Clone(g.Ip)
	g.Dir = copyDir(g.Dir)
	return g
}

func copyDir(n [][]api.Atv) (l [][]api.Atv) {
	for _, set := range n {
		var parts []api.Atv
		for _, x := range set {
			x.Data = bytes.Clone(x.Data)
			parts = append(parts, x)
		}
		l = append(l, parts)
	}
	return l
}
