package realm_test

import (
	"math/rand"
	"strings"
	"testing"
)

// P14.1: the examples of the chapter, and each kind of base.
func TestMail(t *testing.T) {
	wantMail(t, "x@b.example", "b.example", true)
	wantMail(t, "x@a.b.example", "b.example", false)
	wantMail(t, "x@a.b.example", ".b.example", true)
	wantMail(t, "x@b.example", ".b.example", false)
	wantMail(t, "x@ab.example", ".b.example", false)
	wantMail(t, "x@b.example", "x@b.example", true)
	wantMail(t, "y@b.example", "x@b.example", false)
	wantMail(t, "x@a.b.example", "x@b.example", false)
	wantMail(t, "x@b.example", "", true)
	wantMail(t, "x@b.example", "example", false)
}

// P14.1: what is no address is below nothing.
func TestMailNoAddress(t *testing.T) {
	for _, addr := range []string{"", "@", "x@", "@b", "x", "b.example", "x@y@", "@@", "@y@", " @", "@ "} {
		for _, base := range []string{"", "@", "b", ".b", "x@", "@b", "x", "b.example", "x@y@", "@@", "@y@", " @", "@ ", ".", addr} {
			wantMail(t, addr, base, false)
		}
	}
	for _, addr := range []string{"x@b", " @ ", "@@b", "@x@b", "x@@b", ".@.", "\xff@\xff"} {
		wantMail(t, addr, "", true)
	}
}

// P14.1: the last @ counts, in the address and in the base.
func TestMailLastAt(t *testing.T) {
	wantMail(t, "x@y@b", "b", true)
	wantMail(t, "x@y@b", "y@b", false)
	wantMail(t, "x@y@b", "x@y@b", true)
	wantMail(t, "y@b", "x@y@b", false)
	wantMail(t, "x@y@a.b", ".b", true)
	wantMail(t, "@@b", "@@b", true)
	wantMail(t, "@@b", "@b", false)
}

// P14.1: a box counts letter by letter, a house as a host.
func TestMailLetters(t *testing.T) {
	wantMail(t, "X@b.example", "x@b.example", false)
	wantMail(t, "x@b.example", "X@b.example", false)
	wantMail(t, "X@B.Example", "X@b.eXAMPLE", true)
	wantMail(t, "x@B.example", "b.EXAMPLE", true)
	wantMail(t, "x@A.B.example", ".b.EXAMPLE", true)
	wantMail(t, "x@\u00c4.example", "\u00e4.example", false)
	wantMail(t, "x@\u212a", "k", false)
	wantMail(t, "x@k", "x@\u212a", false)
	wantMail(t, "x@\xff", "\xfe", false)
	wantMail(t, "x@a.\u017f", ".s", false)
	wantMail(t, "x@a b", "a  b", false)
	wantMail(t, "x @b", "x@b", false)
	wantMail(t, "x@ b", "b", false)
}

// P14.1: bases at their edges.
func TestMailBases(t *testing.T) {
	wantMail(t, "x@b", "@b", false) // nothing is no box
	wantMail(t, "x@b", "x@", false)
	wantMail(t, "x@b", "@", false)
	wantMail(t, "x@a.b", "x@.b", false) // with an @ in it, the whole house
	wantMail(t, "x@.b", "x@.b", true)
	wantMail(t, ".x@b", ".x@b", true) // it begins with a point, but has an @ in it
	wantMail(t, "a@x.x@b", ".x@b", false)
	wantMail(t, "x@.b", "b", false)
	wantMail(t, "x@.b", ".b", false)
	wantMail(t, "x@..b", ".b", true)
	wantMail(t, "x@a.b", "a", false)
	wantMail(t, "x@a.", ".", true)
	wantMail(t, "x@.", ".", false)
	wantMail(t, "x@b", "b.", false)
	wantMail(t, "x@b.", "b", false)
	wantMail(t, "x@b", "bb", false)
}

func TestMailLong(t *testing.T) {
	s := strings.Repeat("x@", 100000)
	wantMail(t, s+"b", "B", true)
	wantMail(t, s+"b", s+"B", true)
	wantMail(t, s+"b", "x@b", false)
	wantMail(t, s+"a.b", ".b", true)
}

// P14.1: all short addresses and bases against the second writing, and longer
// ones by chance.
func TestMailAgainstModel(t *testing.T) {
	l := texts(4, ".", "a", "A", "@", "\xff")
	for _, addr := range l {
		for _, base := range l {
			wantMail(t, addr, base, modelMail(addr, base))
		}
		if t.Failed() {
			return
		}
	}
	r := rand.New(rand.NewSource(141))
	good := 0
	for range 300000 {
		addr, base := drawnAddress(r), drawnBase(r)
		wantMail(t, addr, base, modelMail(addr, base))
		if base != "" && modelMail(addr, base) {
			good++
		}
		if t.Failed() {
			return
		}
	}
	if good < 3000 {
		t.Errorf("only %d were below a base", good)
	}
}
