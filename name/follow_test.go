package name_test

import (
	"math/rand"
	"slices"
	"strings"
	"testing"

	"chirograph/api"
	"chirograph/name"
)

// P7.6: what is built is read as the same name: all its sets, and all parts of
// each, whichever order they had.
func TestBuiltIsRead(t *testing.T) {
	r := rand.New(rand.NewSource(761))
	for range 30000 {
		n := drawn(r)
		b, e := name.Build(n)
		if e != api.OK {
			t.Fatalf("Build(%v): error %d", n, e)
		}
		m, e := name.Parse(b)
		if e != api.OK || !name.Same(m, n) || len(m) != len(n) {
			t.Fatalf("Build(%v), and read again: %v, error %d", n, m, e)
		}
		for i := range n {
			if !sameParts(m[i], n[i]) {
				t.Fatalf("Build(%v), and read again: %v", n, m)
			}
		}
		if again, e := name.Build(shuffled(r, n)); e != api.OK || string(again) != string(b) {
			t.Fatalf("Build(%v) in another order: %x, error %d; wanted %x", n, again, e, b)
		}
	}
}

// sameParts: has x just the parts of y, as often?
func sameParts(x, y set) bool {
	left := slices.Clone(y)
	for _, p := range x {
		i := slices.IndexFunc(left, func(q api.Atv) bool { return sameAtv(p, q) })
		if i < 0 {
			return false
		}
		left = slices.Delete(left, i, i+1)
	}
	return len(left) == 0
}

// inOrder lays a name without another order of its parts.
func inOrder(n row) string {
	all := ""
	for _, s := range n {
		parts := ""
		for _, x := range s {
			parts += seq(el(6, modelOid(x.Type)), modelValue(x.Tag, string(x.Data)))
		}
		all += setOf(parts)
	}
	return seq(all)
}

// P7.6: what is read is built again: the bytes themselves where the parts
// stand in the one order, else the same name.
func TestReadIsBuilt(t *testing.T) {
	r := rand.New(rand.NewSource(762))
	for range 30000 {
		laid := drawn(r)
		b := inOrder(laid)
		n, e := name.Parse([]byte(b))
		if e != api.OK || !equal(n, laid) {
			t.Fatalf("Parse(%x): %v, error %d; wanted %v", b, n, e, laid)
		}
		c, e := name.Build(n)
		if e != api.OK || len(c) != len(b) {
			t.Fatalf("Parse(%x), and built again: %x, error %d", b, c, e)
		}
		m, e := name.Parse(c)
		if e != api.OK || !name.Same(m, n) {
			t.Fatalf("Parse(%x), built and read again: %v, error %d", b, m, e)
		}
		if again := inOrder(m); again != string(c) {
			t.Fatalf("%x was read in another order than it stands", c)
		}
	}
}

// changed has other orders within the sets, and says the same in other letters
// and blanks, here and there in another kind.
func changed(r *rand.Rand, n row) row {
	m := shuffled(r, n)
	for _, s := range m {
		for j, x := range s {
			if x.Tag == api.TagUtf8 || x.Tag == api.TagIa5 {
				s[j].Data = []byte(otherLetters(r, string(x.Data)))
			}
			if x.Tag == api.TagIa5 {
				s[j].Tag = pick(r, api.TagIa5, api.TagUtf8)
			}
		}
	}
	return m
}

// otherLetters has letters small or great by chance, and more blanks where one
// is, and at the ends.
func otherLetters(r *rand.Rand, s string) string {
	more := func() string { return strings.Repeat(" ", r.Intn(3)) }
	b := more()
	for _, c := range s {
		w := string(c)
		switch {
		case c == ' ':
			w += more()
		case c < 0x80 && r.Intn(2) == 0:
			w = pick(r, strings.ToLower(w), strings.ToUpper(w))
		}
		b += w
	}
	return b + more()
}

// texts is a name whose values all are texts.
func texts(r *rand.Rand) row {
	n := drawn(r)
	for _, s := range n {
		for j := range s {
			s[j].Tag = pick(r, api.TagUtf8, api.TagIa5)
			s[j].Data = []byte(pick(r, "", "a", "Ab", "a b", " a  B ", "A,b", "1", "  "))
		}
	}
	return n
}

// P7.7: to be Same hangs on no order of parts within a set, on no small or
// great letters, nor on how many blanks stand together.
func TestWhatChangesNoName(t *testing.T) {
	r := rand.New(rand.NewSource(771))
	for range 30000 {
		n := texts(r)
		wantSame(t, n, shuffled(r, n), true)
		wantSame(t, n, changed(r, n), true)
		if t.Failed() {
			return
		}
	}
}

// few is a name of few that there are, so that many are Same or within.
func few(r *rand.Rand) row {
	n := make(row, r.Intn(4))
	for i := range n {
		n[i] = pick(r, set{cn("a")}, set{cn("A ")}, set{cn("b")}, set{cn("a"), cn("b")}, set{cn(" B"), atv("2.5.4.3", api.TagIa5, "a")}, set{atv("2.5.4.3", 4, "a")}, set{atv("2.5.4.6", 12, "a")})
	}
	return n
}

// P7.7: to be Same is as with things that are the same; what is within what is
// within a base is within it, and what is Same is within one another.
func TestSameAndWithin(t *testing.T) {
	r := rand.New(rand.NewSource(772))
	same, within := 0, 0
	for range 300000 {
		a, b, c := few(r), few(r), few(r)
		if !name.Same(a, a) || !name.Within(a, a) || !name.Within(a, nil) {
			t.Fatalf("%v is not as it is", a)
		}
		if name.Same(a, b) != name.Same(b, a) {
			t.Fatalf("%v and %v: the order counts", a, b)
		}
		if (name.Within(a, b) && name.Within(b, a)) != name.Same(a, b) {
			t.Fatalf("%v and %v are within one another, or the same, not both", a, b)
		}
		if name.Same(a, b) && name.Same(b, c) {
			same++
			if !name.Same(a, c) {
				t.Fatalf("%v, %v and %v: the same two and two", a, b, c)
			}
		}
		if len(c) > 0 && name.Within(a, b) && name.Within(b, c) {
			within++
			if !name.Within(a, c) {
				t.Fatalf("%v is within %v, and that within %v", a, b, c)
			}
		}
	}
	if same < 500 || within < 500 {
		t.Errorf("only %d rows of three were the same, %d within", same, within)
	}
}
