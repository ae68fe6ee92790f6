package realm_test

import (
	"math/big"
	"math/rand"
	"regexp"
	"strings"

	"chirograph/api"
	"chirograph/name"
	"chirograph/text"
)

// A second writing of the chapter, by other means: hosts are laid in small
// letters, addresses cut by a pattern, nets are great numbers.

func lower(s string) string {
	b := []byte(s)
	for i, c := range b {
		if at := strings.IndexByte("ABCDEFGHIJKLMNOPQRSTUVWXYZ", c); at >= 0 {
			b[i] = "abcdefghijklmnopqrstuvwxyz"[at]
		}
	}
	return string(b)
}

func modelHost(host, base string) bool {
	h, b := lower(host), lower(base)
	return b == "" || h == b || strings.HasSuffix(h, "."+b) || strings.HasPrefix(b, ".") && len(h) > len(b) && strings.HasSuffix(h, b)
}

var (
	address = regexp.MustCompile(`(?s)^(.+)@([^@]+)$`)
	boxed   = regexp.MustCompile(`(?s)^(.*)@([^@]*)$`)
)

func modelMail(addr, base string) bool {
	a := address.FindStringSubmatch(addr)
	if a == nil {
		return false
	}
	box, house := a[1], lower(a[2])
	if b := boxed.FindStringSubmatch(base); b != nil {
		return box+"@"+house == b[1]+"@"+lower(b[2])
	}
	b := lower(base)
	if strings.HasPrefix(b, ".") {
		return house != b && strings.HasSuffix(house, b)
	}
	return b == "" || b == house
}

func modelNet(a, base []byte) bool {
	if len(a) == 0 || len(base) != len(a)+len(a) {
		return false
	}
	x, y, mask := new(big.Int).SetBytes(a), new(big.Int).SetBytes(base[:len(a)]), new(big.Int).SetBytes(base[len(a):])
	return new(big.Int).And(x.Xor(x, y), mask).Sign() == 0
}

func modelWithin(n, base row) bool {
	for i, s := range base {
		if i == len(n) || name.Key(row{n[i]}) != name.Key(row{s}) {
			return false
		}
	}
	return true
}

func modelMatch(g, base api.Gen) bool {
	return g.Kind == base.Kind && map[int]bool{
		1: modelMail(g.Text, base.Text),
		2: modelHost(g.Text, base.Text),
		4: modelWithin(g.Dir, base.Dir),
		7: modelNet(g.Ip, base.Ip),
	}[g.Kind]
}

func modelAllowed(names, permitted, excluded []api.Gen) bool {
	for _, g := range names {
		if g.Kind != 1 && g.Kind != 2 && g.Kind != 4 && g.Kind != 7 {
			continue
		}
		asked, held := 0, 0
		for _, base := range permitted {
			if base.Kind == g.Kind {
				asked++
			}
			if modelMatch(g, base) {
				held++
			}
		}
		if asked > 0 && held == 0 {
			return false
		}
		for _, base := range excluded {
			if modelMatch(g, base) {
				return false
			}
		}
	}
	return true
}

func modelNames(c api.Cert) (l []api.Gen) {
	if len(c.Subject) != 0 {
		l = append(l, api.Gen{Kind: 4, Dir: c.Subject})
	}
	l = append(l, c.Names...)
	for _, g := range l {
		if g.Kind == 1 {
			return l
		}
	}
	for _, s := range c.Subject {
		for _, x := range s {
			if w, e := text.Text(x.Tag, x.Data); x.Type == "1.2.840.113549.1.9.1" && e == api.OK {
				l = append(l, api.Gen{Kind: 1, Text: w})
			}
		}
	}
	return l
}

// What is drawn is of few pieces, so that much is below something.

func drawnHost(r *rand.Rand) string {
	s := ""
	for range r.Intn(5) {
		s += pick(r, "a", "B", "b", ".", ".a", ".b", "\u00e4")
	}
	return s
}

func drawnHouse(r *rand.Rand) string {
	return pick(r, "b", "B", "a.b", "A.b", "b.a.b", ".b", drawnHost(r))
}

func drawnBase(r *rand.Rand) string {
	return pick(r, "", "", ".", "a@", "A@", "a@", "@") + drawnHouse(r)
}

func drawnAddress(r *rand.Rand) string {
	return pick(r, "a@", "A@", "a@a@", "", "@", "b@") + drawnHouse(r)
}

func drawnBytes(r *rand.Rand, n int) []byte {
	b := make([]byte, n)
	for i := range b {
		b[i] = pick[byte](r, 0, 0, 1, 0x80, 0xff)
	}
	return b
}

func drawnDir(r *rand.Rand) row {
	n := make(row, r.Intn(4))
	for i := range n {
		n[i] = pick(r, set{cn("a")}, set{cn("A ")}, set{cn("b")}, set{cn("a"), cn("b")}, set{cn("b"), cn("a")}, set{}, set{post("a@b")}, set{atv(oidMail, 4, "a@b"), post("A@B")})
	}
	return n
}

// drawnGen is a name, or a base, of any kind; now and then fields stand in it
// that its kind does not have.
func drawnGen(r *rand.Rand, base bool) api.Gen {
	g := api.Gen{Kind: pick(r, 1, 1, 2, 2, 4, 4, 7, 7, 0, 3, 5, 6, 8, -1, 9)}
	more := r.Intn(8) == 0
	if g.Kind == api.GenMail || more {
		g.Text = drawnAddress(r)
		if base {
			g.Text = drawnBase(r)
		}
	}
	if g.Kind == api.GenDns {
		g.Text = drawnHost(r)
	}
	if g.Kind == api.GenDir || more {
		g.Dir = drawnDir(r)
	}
	if g.Kind == api.GenIp || more {
		g.Ip = []byte{pick[byte](r, 0, 1, 0xff)}
		if base {
			g.Ip = append(g.Ip, pick[byte](r, 0, 1, 0xff, 0xfe))
		}
		g.Ip = pick(r, g.Ip, g.Ip, g.Ip, g.Ip, drawnBytes(r, r.Intn(6)))
	}
	return g
}

func drawnGens(r *rand.Rand, most int, base bool) []api.Gen {
	l := make([]api.Gen, r.Intn(most+1))
	for i := range l {
		l[i] = drawnGen(r, base)
	}
	return l
}
