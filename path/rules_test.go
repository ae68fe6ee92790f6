package path_test

import (
	"math"
	"math/rand"
	"reflect"
	"slices"
	"strings"
	"testing"
	"time"

	"chirograph/api"
	"chirograph/path"
)

// The rules that hold everywhere.

// wantApart asks that no two lists that answers have share memory, spare room
// included.
func wantApart(t *testing.T, l ...any) {
	t.Helper()
	type stretch struct{ from, to uintptr }
	var all []stretch
	var look func(v reflect.Value)
	look = func(v reflect.Value) {
		if v.Kind() != reflect.Slice || v.Cap() == 0 {
			return
		}
		v = v.Slice(0, v.Cap())
		all = append(all, stretch{v.Pointer(), v.Pointer() + uintptr(v.Len())*v.Type().Elem().Size()})
		for i := range v.Len() {
			look(v.Index(i))
		}
	}
	for _, x := range l {
		look(reflect.ValueOf(x))
	}
	for i, a := range all {
		for _, b := range all[:i] {
			if a.from < b.to && b.from < a.to {
				t.Fatal("two lists share memory")
			}
		}
	}
}

// No two lists of answers are shared: one that is written over leaves the others.
func TestAnswersStandApart(t *testing.T) {
	r := rand.New(rand.NewSource(168))
	for range 500 {
		s := drawnScene(r, 4, 5)
		a, _ := path.Chains(s.leaf, s.anchors, s.rest)
		b, _ := path.Chains(s.leaf, s.anchors, s.rest)
		_, c := path.Validate(s.leaf, s.anchors, s.rest, s.crls, s.ask)
		_, d := path.Validate(s.leaf, s.anchors, s.rest, s.crls, s.ask)
		wantApart(t, a, b, c, d)
	}
	anchor, l := line(5)
	a, _ := path.Chains(l[4], certs(anchor, issue(rank(0), rank(0), 50)), append(l[:4:4], issue(rank(1), rank(2), 51)))
	wantApart(t, a)
	for _, x := range a {
		x = x[:cap(x)]
		for i := range x {
			x[i] = -1
		}
	}
	wantChains(t, "again", l[4], certs(anchor), l[:4], []int{0, 0, 1, 2, 3})
}

// copied is a value in memory of its own, and of all its lists with spare room in
// which something stands.
func copied(v reflect.Value) reflect.Value {
	switch v.Kind() {
	case reflect.Slice:
		n := v.Len()
		w := reflect.MakeSlice(v.Type(), n+2, n+2)
		for i := range n {
			w.Index(i).Set(copied(v.Index(i)))
		}
		if n > 0 {
			w.Index(n).Set(copied(v.Index(0)))
			w.Index(n + 1).Set(copied(v.Index(n - 1)))
		}
		return w.Slice(0, n)
	case reflect.Struct:
		w := reflect.New(v.Type()).Elem()
		for i := range v.NumField() {
			w.Field(i).Set(copied(v.Field(i)))
		}
		return w
	}
	return v
}

// roomy is a scene in other memory, with spare room.
func roomy(s scene) (m scene) {
	of := func(x any) any { return copied(reflect.ValueOf(x)).Interface() }
	m.leaf, m.anchors, m.rest = of(s.leaf).(api.Cert), of(s.anchors).([]api.Cert), of(s.rest).([]api.Cert)
	m.crls, m.ask = of(s.crls).([]api.Crl), of(s.ask).(api.Ask)
	return m
}

// widened has all lists as long as they have room.
func widened(v reflect.Value) reflect.Value {
	switch v.Kind() {
	case reflect.Slice:
		w := reflect.MakeSlice(v.Type(), v.Cap(), v.Cap())
		for i := range v.Cap() {
			w.Index(i).Set(widened(v.Slice(0, v.Cap()).Index(i)))
		}
		return w
	case reflect.Struct:
		w := reflect.New(v.Type()).Elem()
		for i := range v.NumField() {
			w.Field(i).Set(widened(v.Field(i)))
		}
		return w
	}
	return v
}

// allOf is all that a scene has, spare room included, in other memory.
func allOf(s scene) []any {
	var l []any
	for _, x := range []any{s.leaf, s.anchors, s.rest, s.crls, s.ask} {
		l = append(l, widened(reflect.ValueOf(x)).Interface())
	}
	return l
}

// What is handed in stays, spare room included, and what stands there plays no
// part.
func TestArgumentsStay(t *testing.T) {
	r := rand.New(rand.NewSource(169))
	for range 300 {
		s := drawnScene(r, 4, 5)
		chains, e := path.Chains(s.leaf, s.anchors, s.rest)
		n, chain := path.Validate(s.leaf, s.anchors, s.rest, s.crls, s.ask)
		checked := path.Check(s.leaf, s.rest, s.crls, s.ask)
		m := roomy(s)
		was := allOf(m)
		got, f := path.Chains(m.leaf, m.anchors, m.rest)
		if f != e || !sameChains(got, chains) {
			t.Fatalf("Chains: %v and %v", chains, got)
		}
		wantValidate(t, "with spare room", m.leaf, m.anchors, m.rest, m.crls, m.ask, n, chain...)
		wantCheck(t, "with spare room", m.leaf, m.rest, m.crls, m.ask, checked)
		wantCheck(t, "with spare room", m.leaf, append(m.rest[:len(m.rest):len(m.rest)], m.leaf), m.crls, m.ask, path.Check(s.leaf, append(slices.Clone(s.rest), s.leaf), s.crls, s.ask))
		if !reflect.DeepEqual(allOf(m), was) {
			t.Fatal("an argument was changed")
		}
	}
}

// One list may be handed in as two.
func TestOneListAsTwo(t *testing.T) {
	anchor, l := line(4)
	all := append(certs(anchor), l...)
	wantValidate(t, "all as anchors and as others", l[3], all, all, lists(4), hard(), api.Accept, 0, 0, 1, 2, 3)
	wantChains(t, "all as anchors and as others", l[3], all, all, []int{0, 0, 1, 2, 3}, []int{0, 1, 2, 3}, []int{1, 2, 3}, []int{2, 3}, []int{3})
	wantCheck(t, "a part of all", all[0], all[1:], nil, asked(), api.Accept)
	wantCheck(t, "a part of all", all[1], all[2:], nil, asked(), api.Accept)
	all = all[:3]
	wantCheck(t, "a part of all", all[0], all[1:], nil, asked(), api.Accept)
	if again := append(certs(anchor), l...); !reflect.DeepEqual(all[:5], again) {
		t.Error("an argument was changed")
	}
}

// Nil and empty lists are alike, wherever they stand.
func TestNilAndEmpty(t *testing.T) {
	r := rand.New(rand.NewSource(170))
	var empty func(v reflect.Value) reflect.Value
	empty = func(v reflect.Value) reflect.Value {
		w := copied(v)
		switch {
		case v.Kind() == reflect.Slice && v.Len() == 0:
			return reflect.MakeSlice(v.Type(), 0, 0)
		case v.Kind() == reflect.Slice:
			for i := range v.Len() {
				w.Index(i).Set(empty(v.Index(i)))
			}
		case v.Kind() == reflect.Struct:
			for i := range v.NumField() {
				w.Field(i).Set(empty(v.Field(i)))
			}
		}
		return w
	}
	of := func(x any) any { return empty(reflect.ValueOf(x)).Interface() }
	for range 300 {
		s := drawnScene(r, 3, 4)
		n, chain := path.Validate(s.leaf, s.anchors, s.rest, s.crls, s.ask)
		wantValidate(t, "empty lists", of(s.leaf).(api.Cert), of(s.anchors).([]api.Cert), of(s.rest).([]api.Cert), of(s.crls).([]api.Crl), of(s.ask).(api.Ask), n, chain...)
		wantCheck(t, "empty lists", of(s.leaf).(api.Cert), of(s.rest).([]api.Cert), of(s.crls).([]api.Crl), of(s.ask).(api.Ask), path.Check(s.leaf, s.rest, s.crls, s.ask))
	}
}

// What is told hangs on the arguments alone, not on what was asked before: not
// even where those are the same but for what is signed.
func TestNothingIsKept(t *testing.T) {
	anchor, l := line(3)
	for range 3 {
		wantValidate(t, "a line", l[2], certs(anchor), l[:2], lists(3), hard(), api.Accept, 0, 0, 1)
		for i := range l {
			m := changed(l, i, func(c *api.Cert) { c.Sig = nil })
			wantValidate(t, "a line that was changed", m[2], certs(anchor), m[:2], lists(3), hard(), api.PathSig)
			gone := changed(lists(3), i, func(c *api.Crl) { c.Gone = []api.Gone{goneBy(l[i], now)} })
			wantValidate(t, "another list", l[2], certs(anchor), l[:2], gone, hard(), api.PathRevoked)
			wantValidate(t, "a list less", l[2], certs(anchor), l[:2], slices.Delete(lists(3), i, i+1), hard(), api.PathStatus)
		}
	}
}

// No call panics, whatever it is given.
func TestNoPanics(t *testing.T) {
	r := rand.New(rand.NewSource(171))
	numbers := []int{math.MinInt, -2, -1, 0, 1, 7, math.MaxInt}
	odd := func() api.Cert {
		c := drawnCert(r, r.Intn(50))
		c.From, c.Until, c.Below, c.Usage, c.Require, c.Inhibit = pick(r, numbers...), pick(r, numbers...), pick(r, numbers...), pick(r, numbers...), pick(r, numbers...), pick(r, numbers...)
		c.Way = api.Alg{Kind: r.Intn(6) - 1, Digest: r.Intn(7) - 1, Mask: pick(r, numbers...), Salt: pick(r, numbers...)}
		c.Key = pick(r, c.Key, api.Key{}, api.Key{Curve: pick(r, numbers...)}, api.Key{Curve: 1, Point: api.Point{X: []uint32{1}}}, api.Key{Rsa: api.RsaKey{N: make([]uint32, 1000), E: []uint32{3}}})
		c.Subject = pick(r, c.Subject, nil, [][]api.Atv{nil, {{}}, {{Tag: math.MinInt}}})
		c.Issuer = pick(r, c.Subject, c.Issuer)
		c.Names = append(c.Names, api.Gen{Kind: pick(r, numbers...), Ip: make([]byte, r.Intn(9))})
		c.Permitted = append(c.Permitted, api.Gen{Kind: r.Intn(9), Text: strings.Repeat("@.", r.Intn(3)), Ip: make([]byte, r.Intn(9))})
		return c
	}
	for range 2000 {
		var l []api.Cert
		for range r.Intn(12) {
			l = append(l, odd())
		}
		crls := crls(api.Crl{}, api.Crl{Open: true, Next: math.MinInt, Gone: make([]api.Gone, 2), Way: api.Alg{Kind: 3, Digest: 2}})
		ask := api.Ask{At: pick(r, numbers...), Now: pick(r, numbers...), Use: pick(r, "", "\xff"), Only: seldom(r, 2), User: []string{"", "\x00"}, Hard: seldom(r, 2), Late: numbers}
		path.Check(odd(), l, crls, ask)
		path.Chains(odd(), l, l)
		path.Validate(odd(), l, l, crls, ask)
	}
	wantCheck(t, "nothing", api.Cert{}, make([]api.Cert, 3), make([]api.Crl, 3), api.Ask{}, api.PathSig)
	wantChains(t, "nothing", api.Cert{Raw: []byte{1}}, make([]api.Cert, 3), make([]api.Cert, 3), []int{0}, []int{0, 0})
}

// What many chains share is verified once.
func TestVerifiedOnce(t *testing.T) {
	text := make([]byte, 1<<22)
	leaf := issue(inter, end, 1)
	leaf.Tbs, leaf.Sig = text, products[inter.key].make(text)
	gone := list(inter, 2)
	gone.Tbs, gone.Sig = text, leaf.Sig
	anchors := crowd(root, root, 64, 3)
	rest := crowd(root, inter, 4, 4)
	begin := time.Now()
	if n := path.Check(anchors[0], append(rest[:1:1], leaf), crls(gone), hard()); n != api.PathStatus {
		t.Errorf("Check: %d", n)
	}
	once := time.Since(begin)
	begin = time.Now()
	wantValidate(t, "256 chains", leaf, anchors, rest, crls(gone), hard(), api.PathStatus)
	if all := time.Since(begin); all > 50*once+time.Second/2 {
		t.Errorf("256 chains took %v, one %v", all, once)
	}
}
