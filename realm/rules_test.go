package realm_test

import (
	"math/rand"
	"reflect"
	"slices"
	"strings"
	"testing"

	"chirograph/api"
	"chirograph/realm"
)

// stretch is memory that a list has, spare room too.
type stretch struct{ from, to uintptr }

// stretches are those of all lists in v, the ones in spare room too.
func stretches(v reflect.Value) (l []stretch) {
	switch v.Kind() {
	case reflect.Struct:
		for i := range v.NumField() {
			l = append(l, stretches(v.Field(i))...)
		}
	case reflect.Slice:
		if v.Cap() == 0 {
			return nil
		}
		v = v.Slice(0, v.Cap())
		l = append(l, stretch{v.Pointer(), v.Pointer() + uintptr(v.Len())*v.Type().Elem().Size()})
		for i := range v.Len() {
			l = append(l, stretches(v.Index(i))...)
		}
	}
	return l
}

func wantApart(t *testing.T, answers ...any) {
	t.Helper()
	var l []stretch
	for _, a := range answers {
		l = append(l, stretches(reflect.ValueOf(a))...)
	}
	for i, a := range l {
		for _, b := range l[:i] {
			if a.from < b.to && b.from < a.to {
				t.Error("two lists share memory")
				return
			}
		}
	}
}

// The rule of memory: no list of what Names answers is shared, with the
// certificate, with another list, with another answer.
func TestNamesMemory(t *testing.T) {
	r := rand.New(rand.NewSource(1481))
	for range 500 {
		c := api.Cert{Subject: deepDir(drawnDir(r), 3), Names: deep(drawnGens(r, 4, false), 3)}
		was := api.Cert{Subject: deepDir(whole(c.Subject), 0), Names: deep(whole(c.Names), 0)}
		asked := deep(modelNames(c), 0)
		l, m := realm.Names(c), realm.Names(c)
		wantApart(t, c, l, m)
		if !same(gens(dir(whole(c.Subject)...)), gens(dir(was.Subject...))) || !same(whole(c.Names), was.Names) {
			t.Error("the certificate was changed")
		}
		scribble(m)
		scribble(whole(c.Names))
		scribble(gens(dir(whole(c.Subject)...)))
		if !same(l, asked) {
			t.Error("an answer changed with the certificate, or with another one")
		}
		if t.Failed() {
			return
		}
	}
}

// scribble writes over all that names have.
func scribble(l []api.Gen) {
	for _, g := range whole(l) {
		for _, s := range whole(g.Dir) {
			for j := range whole(s) {
				for k := range whole(whole(s)[j].Data) {
					whole(whole(s)[j].Data)[k] ^= 0xff
				}
				whole(s)[j] = api.Atv{}
			}
		}
		for i := range whole(g.Ip) {
			whole(g.Ip)[i] ^= 0xff
		}
		clear(whole(g.Dir))
	}
	clear(whole(l))
}

// The rule of memory: lists that share memory when they are handed in stand
// apart in the answer.
func TestNamesShared(t *testing.T) {
	n, b := row{{cn("a"), cn("b")}, {post("x@y")}}, []byte{1, 2, 3, 4}
	n[1][0].Data = n[0][0].Data
	g := api.Gen{Kind: api.GenDir, Dir: n, Ip: b}
	c := api.Cert{Subject: n, Names: gens(g, g, api.Gen{Kind: api.GenIp, Ip: b[:2]}, api.Gen{Kind: api.GenIp, Ip: b[2:]})}
	wantApart(t, realm.Names(c))
	wantNames(t, "shared", c, modelNames(c)...)
}

// The rule of memory: what is handed in stays as it is, spare room too, and
// spare room plays no part in the answer.
func TestArgumentsStay(t *testing.T) {
	r := rand.New(rand.NewSource(1482))
	for range 3000 {
		names, permitted, excluded := drawnGens(r, 3, false), drawnGens(r, 3, true), drawnGens(r, 2, true)
		lists := [][]api.Gen{deep(names, 2), deep(permitted, 2), deep(excluded, 2)}
		var was [][]api.Gen
		for _, l := range lists {
			was = append(was, deep(whole(l), 0))
		}
		wantAllowed(t, lists[0], lists[1], lists[2], modelAllowed(names, permitted, excluded))
		for i, g := range lists[0] {
			for j, base := range lists[1] {
				wantMatch(t, g, base, modelMatch(names[i], permitted[j]))
				wantNet(t, g.Ip, base.Ip, modelNet(names[i].Ip, permitted[j].Ip))
			}
		}
		for i, l := range lists {
			if !same(whole(l), was[i]) {
				t.Error("an argument was changed")
			}
		}
		if t.Failed() {
			return
		}
	}
}

// Nil and empty lists are alike.
func TestNilAndEmpty(t *testing.T) {
	for _, a := range [][]byte{nil, {}} {
		for _, n := range []row{nil, {}} {
			g := api.Gen{Kind: api.GenDir, Ip: a, Dir: n}
			wantMatch(t, g, dir(), true)
			wantMatch(t, dir(), g, true)
			wantMatch(t, dir(set{cn("a")}), g, true)
			wantNames(t, "empty", api.Cert{Subject: n, Names: gens(g)}, dir())
			for _, l := range [][]api.Gen{nil, {}} {
				wantAllowed(t, l, l, gens(g), true)
				wantAllowed(t, gens(g), l, l, true)
				wantNames(t, "empty", api.Cert{Subject: n, Names: l})
			}
			wantNet(t, a, []byte{}, false)
			wantNet(t, a, nil, false)
		}
	}
}

// What is told hangs on the arguments alone, not on what was asked before.
func TestNothingIsKept(t *testing.T) {
	r := rand.New(rand.NewSource(1483))
	names, bases := drawnGens(r, 40, false), drawnGens(r, 40, true)
	c := api.Cert{Subject: row{{post("x@y")}}, Names: gens(dns("a"))}
	for range 3 {
		for _, g := range names {
			for _, base := range bases {
				wantMatch(t, g, base, modelMatch(g, base))
			}
		}
		wantNames(t, "again", c, dir(set{post("x@y")}), dns("a"), mail("x@y"))
		wantNames(t, "nothing", api.Cert{})
	}
}

// No call panics, whatever it is given.
func TestNoPanics(t *testing.T) {
	odd := []string{"", "@", ".", "\x00", "\xff", "@.", ".@", "@@", "..", "a@.", strings.Repeat("@", 1000), strings.Repeat(".", 1000)}
	dirs := []row{nil, {nil}, {{}, {{}}}, {{{Type: "x", Tag: -1}}}, {{{Type: oidMail, Tag: -1, Data: []byte{1}}}}, often(300, set{cn("a")})}
	var all []api.Gen
	for kind := -1; kind < 10; kind++ {
		for i, s := range odd {
			all = append(all, api.Gen{Kind: kind, Text: s, Ip: []byte(s), Dir: dirs[i%len(dirs)]})
		}
	}
	for _, g := range all {
		for _, base := range all {
			wantMatch(t, g, base, modelMatch(g, base))
			wantHost(t, g.Text, base.Text, modelHost(g.Text, base.Text))
			wantMail(t, g.Text, base.Text, modelMail(g.Text, base.Text))
			wantNet(t, g.Ip, base.Ip, modelNet(g.Ip, base.Ip))
		}
		wantAllowed(t, gens(g), all, nil, modelAllowed(gens(g), all, nil))
		wantAllowed(t, gens(g), nil, all, modelAllowed(gens(g), nil, all))
		c := api.Cert{Subject: g.Dir, Names: gens(g)}
		wantNames(t, "odd", c, modelNames(c)...)
	}
	wantAllowed(t, all, all, all, false)
	wantAllowed(t, all, slices.Clone(all), nil, false)
}
