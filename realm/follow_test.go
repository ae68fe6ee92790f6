package realm_test

import (
	"math/rand"
	"slices"
	"testing"

	"chirograph/api"
	"chirograph/name"
	"chirograph/realm"
)

// some is a row of names, or bases, by chance, some of which are drawn from l.
func some(r *rand.Rand, l []api.Gen) (out []api.Gen) {
	for _, g := range l {
		if r.Intn(2) == 0 {
			out = append(out, g)
		}
	}
	return out
}

// P14.6: what is permitted by more is, where nothing of its kind was permitted
// ahead, less; where something was, it is more.
func TestMorePermitted(t *testing.T) {
	r := rand.New(rand.NewSource(1461))
	lost, won := 0, 0
	for range 120000 {
		names, permitted, excluded := drawnGens(r, 3, false), drawnGens(r, 3, true), drawnGens(r, 1, true)
		b := drawnGen(r, true)
		ahead := slices.ContainsFunc(permitted, func(g api.Gen) bool { return g.Kind == b.Kind })
		few, more := realm.Allowed(names, permitted, excluded), realm.Allowed(names, append(permitted, b), excluded)
		switch {
		case few == more:
		case more != ahead:
			t.Fatalf("%s by %s: allowed %v, and if %s is permitted, too: %v", shown(names), shown(permitted), few, shown(b), more)
		case more:
			won++
		default:
			lost++
		}
	}
	if lost < 1000 || won < 200 {
		t.Errorf("only %d were lost, %d won", lost, won)
	}
}

// P14.6: what is excluded by more is less.
func TestMoreExcluded(t *testing.T) {
	r := rand.New(rand.NewSource(1463))
	lost := 0
	for range 60000 {
		names, permitted, excluded := drawnGens(r, 3, false), drawnGens(r, 1, true), drawnGens(r, 4, true)
		few, more := realm.Allowed(names, permitted, some(r, excluded)), realm.Allowed(names, permitted, excluded)
		if more && !few {
			t.Fatalf("%s without %s, %s: allowed only if all of these are excluded", shown(names), shown(permitted), shown(excluded))
		}
		if few && !more {
			lost++
		}
	}
	if lost < 1000 {
		t.Errorf("only %d were lost", lost)
	}
}

// P14.6: fewer names are allowed where more are; and where each one is, all are.
func TestFewerNames(t *testing.T) {
	r := rand.New(rand.NewSource(1464))
	won := 0
	for range 60000 {
		names, permitted, excluded := drawnGens(r, 4, false), drawnGens(r, 3, true), drawnGens(r, 2, true)
		few, more := realm.Allowed(some(r, names), permitted, excluded), realm.Allowed(names, permitted, excluded)
		if more && !few {
			t.Fatalf("%s: allowed by %s, %s, but some of them not", shown(names), shown(permitted), shown(excluded))
		}
		if few && !more {
			won++
		}
		each := !slices.ContainsFunc(names, func(g api.Gen) bool { return !realm.Allowed(gens(g), permitted, excluded) })
		if each != more {
			t.Fatalf("%s by %s, %s: one by one %v, all %v", shown(names), shown(permitted), shown(excluded), each, more)
		}
	}
	if won < 1000 {
		t.Errorf("only %d were won", won)
	}
}

// The orders of names and bases play no part, nor do those that stand twice.
func TestOrdersPlayNoPart(t *testing.T) {
	r := rand.New(rand.NewSource(1465))
	other := func(l []api.Gen) []api.Gen {
		l = slices.Concat(l, some(r, l))
		r.Shuffle(len(l), func(i, j int) { l[i], l[j] = l[j], l[i] })
		return l
	}
	for range 30000 {
		names, permitted, excluded := drawnGens(r, 3, false), drawnGens(r, 4, true), drawnGens(r, 2, true)
		wantAllowed(t, other(names), other(permitted), other(excluded), realm.Allowed(names, permitted, excluded))
		if t.Failed() {
			return
		}
	}
}

// P14.7: a host below one that is below a base is below the base.
func TestHostsBelowHosts(t *testing.T) {
	l := texts(4, ".", "a", "B", "b")
	below := map[string][]string{}
	for _, host := range l {
		for _, base := range l {
			if realm.Host(host, base) {
				below[host] = append(below[host], base)
			}
		}
	}
	steps := 0
	for _, host := range l {
		for _, middle := range below[host] {
			for _, base := range below[middle] {
				if host != middle && middle != base && base != "" {
					steps++
				}
				wantHost(t, host, base, true)
			}
		}
		if t.Failed() {
			return
		}
	}
	if steps < 100 {
		t.Errorf("only %d steps", steps)
	}
}

// P14.7: a directory that begins as one that begins as a base.
func TestDirsWithinDirs(t *testing.T) {
	r := rand.New(rand.NewSource(1471))
	steps := 0
	for range 300000 {
		a, b, c := dir(drawnDir(r)...), dir(drawnDir(r)...), dir(drawnDir(r)...)
		if !realm.Match(a, b) || !realm.Match(b, c) {
			continue
		}
		wantMatch(t, a, c, true)
		if len(c.Dir) > 0 {
			steps++
		}
	}
	for range 3000 {
		n := slices.Concat(drawnDir(r), drawnDir(r))
		for i := range len(n) + 1 {
			wantMatch(t, dir(n...), dir(n[:i]...), true)
			wantMatch(t, dir(n[:i]...), dir(n...), i == len(n) || name.Same(n[:i], n))
		}
	}
	if steps < 500 {
		t.Errorf("only %d steps", steps)
	}
}

// P14.7: an address of a net that begins as another one, whose mask is no
// longer, is of that one too.
func TestNetsWithinNets(t *testing.T) {
	r := rand.New(rand.NewSource(1472))
	steps := 0
	for range 200000 {
		n := 1 + r.Intn(3)
		a, low, mask, base, wide := drawnBytes(r, n), drawnBytes(r, n), drawnBytes(r, n), drawnBytes(r, n), drawnBytes(r, n)
		for i := range wide {
			wide[i] &= mask[i]
		}
		if !realm.Net(a, slices.Concat(low, mask)) || !realm.Net(low, slices.Concat(base, wide)) {
			continue
		}
		wantNet(t, a, slices.Concat(base, wide), true)
		if slices.Max(wide) > 0 && !slices.Equal(wide, mask) {
			steps++
		}
	}
	if steps < 500 {
		t.Errorf("only %d steps", steps)
	}
}
