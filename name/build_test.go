package name_test

import (
	"math"
	"math/rand"
	"strings"
	"testing"

	"chirograph/api"
	"chirograph/name"
)

// P7.3: the example of the chapter, and other names.
func TestBuild(t *testing.T) {
	wantBuild(t, one(atv("2.5.4.6", api.TagPrintable, "DE")), string(hx("30 0d 31 0b 30 09 06 03 55 04 06 13 02 44 45")))
	wantBuild(t, nil, "\x30\x00")
	wantBuild(t, row{}, "\x30\x00")
	wantBuild(t, one(cn("a")), seq(setOf(part(word))))
	wantBuild(t, one(cn("")), seq(setOf(part("\x0c\x00"))))
	wantBuild(t, row{{cn("b")}, {cn("a")}}, seq(setOf(part("\x0c\x01b")), setOf(part(word)))) // sets stay where they are
	wantBuild(t, one(atv("2.999", 6, "\x2a")), seq(setOf(seq("\x06\x02\x88\x37", "\x06\x01\x2a"))))
	wantBuild(t, one(atv("2.5.4.3", api.TagBmp, "\xd8")), seq(setOf(part("\x1e\x01\xd8")))) // no text
	long := strings.Repeat("x", 70000)
	wantBuild(t, one(cn(long)), seq(setOf(part(el(12, long)))))
}

// P7.3: the parts in a set stand in the order of their bytes.
func TestBuildOrder(t *testing.T) {
	wantBuild(t, row{{cn("b"), cn("a")}}, seq(setOf(part(word), part("\x0c\x01b"))))
	wantBuild(t, row{{cn("a"), cn("b")}}, seq(setOf(part(word), part("\x0c\x01b"))))
	wantBuild(t, row{{cn("a"), cn("a")}}, seq(setOf(part(word), part(word)))) // twice is twice
	wantBuild(t, row{{cn("aa"), cn("b")}}, seq(setOf(part("\x0c\x01b"), part("\x0c\x02aa"))))
	wantBuild(t, row{{cn("b"), cn("")}}, seq(setOf(part("\x0c\x00"), part("\x0c\x01b"))))
	// by the bytes that are laid, not by the Type's text; the length of a part counts first
	wantBuild(t, row{{atv("2.5.4.10", 12, "a"), cn("a")}}, seq(setOf(part(word), seq("\x06\x03\x55\x04\x0a", word))))
	wantBuild(t, row{{cn("a"), atv("2.5.4.10", 12, "a")}}, seq(setOf(part(word), seq("\x06\x03\x55\x04\x0a", word))))
	wantBuild(t, row{{atv("1.3.9", 12, "aa"), cn("")}}, seq(setOf(part("\x0c\x00"), seq("\x06\x02\x2b\x09", "\x0c\x02aa"))))
	wantBuild(t, row{{cn("a"), atv("2.999", 12, "aa")}}, seq(setOf(seq("\x06\x02\x88\x37", "\x0c\x02aa"), part(word))))
	wantBuild(t, row{{cn("a"), atv("2.5.4.3", 4, "a")}}, seq(setOf(part("\x04\x01a"), part(word))))
	wantBuild(t, row{{cn("\xff"), cn("\x7f"), cn("\x80")}}, seq(setOf(part("\x0c\x01\x7f"), part("\x0c\x01\x80"), part("\x0c\x01\xff"))))
	wantBuild(t, row{{cn("c"), cn("b")}, {cn("b"), cn("a")}}, seq(setOf(part("\x0c\x01b"), part("\x0c\x01c")), setOf(part(word), part("\x0c\x01b"))))
	// a length of two bytes is behind all of one
	wide := strings.Repeat("a", 200)
	wantBuild(t, row{{cn(wide), cn("b")}}, seq(setOf(part("\x0c\x01b"), part(el(12, wide)))))
}

// P7.3: MaxRdns sets, and parts in one, are allowed; ErrMany stands ahead of
// all else, wherever that is.
func TestBuildCounts(t *testing.T) {
	p := part(word)
	wantBuild(t, often(64, set{cn("a")}), seq(often(64, setOf(p))...))
	wantNoBuild(t, often(65, set{cn("a")}), api.ErrMany)
	wantBuild(t, row{often(64, cn("a"))}, seq(setOf(often(64, p)...)))
	wantNoBuild(t, row{often(65, cn("a"))}, api.ErrMany)
	wantNoBuild(t, often(65, set{}), api.ErrMany)
	wantNoBuild(t, make(row, 65), api.ErrMany)
	for _, bad := range []set{{}, nil, {atv("1", 12, "")}, {atv("1.2", 0, "")}, {cn("a"), atv("x", -1, "")}} {
		wantNoBuild(t, row{bad, often(65, cn("a"))}, api.ErrMany)
		wantNoBuild(t, row{often(65, cn("a")), bad}, api.ErrMany)
		wantNoBuild(t, row{bad, {cn("a")}, often(65, api.Atv{})}, api.ErrMany)
	}
	wantNoBuild(t, append(often(63, set{}), often(65, cn("a"))), api.ErrMany)
}

// P7.3: a set without a part.
func TestBuildNone(t *testing.T) {
	wantNoBuild(t, row{{}}, api.ErrNone)
	wantNoBuild(t, row{nil}, api.ErrNone)
	wantNoBuild(t, row{{cn("a")}, {}}, api.ErrNone)
	wantNoBuild(t, row{{}, {cn("a")}}, api.ErrNone)
	wantNoBuild(t, make(row, 64), api.ErrNone)
}

// P7.3: types that are no identifiers.
func TestBuildTypes(t *testing.T) {
	for _, s := range []string{"", "1", "CN", "1.", ".1", "1..2", "1.2.", "01.2", "1.02", "3.1", "1.40", "0.40", "1,2", "1.2 ", "-1.2", "1.é"} {
		wantNoBuild(t, one(atv(s, 12, "a")), api.ErrForm)
		wantNoBuild(t, one(atv(s, 0, "a")), api.ErrForm) // ahead of ErrArg
		wantNoBuild(t, row{{cn("a")}, {cn("a"), atv(s, 12, "a")}}, api.ErrForm)
	}
	for _, s := range []string{"1.2.2147483648", "2.2147483648", "1.2.99999999999999999999999", "2.5.4294967296"} {
		wantNoBuild(t, one(atv(s, 12, "a")), api.ErrLong)
		wantNoBuild(t, one(atv(s, 0, "a")), api.ErrLong) // ahead of ErrArg
	}
	wantBuild(t, one(atv("2.2147483647", 12, "a")), seq(setOf(seq("\x06\x05\x88\x80\x80\x80\x4f", word))))
}

// P7.3: a Tag from 1 to MaxTag.
func TestBuildTags(t *testing.T) {
	for _, tag := range []int{0, -1, -12, -256, math.MinInt, math.MinInt32, api.MaxTag + 1, math.MaxInt32, math.MaxInt, 1 << 32, 1<<32 + 12} {
		wantNoBuild(t, one(atv("2.5.4.3", tag, "a")), api.ErrArg)
		wantNoBuild(t, row{{cn("a"), atv("2.5.4.3", tag, "a")}, {}}, api.ErrArg)
	}
	for tag := 1; tag < 31; tag++ {
		wantBuild(t, one(atv("2.5.4.3", tag, "a")), seq(setOf(part(el(tag, "a")))))
	}
	wantBuild(t, one(atv("2.5.4.3", 31, "a")), seq(setOf(part("\x1f\x1f\x01a"))))
	wantBuild(t, one(atv("2.5.4.3", 128, "a")), seq(setOf(part("\x1f\x81\x00\x01a"))))
	wantBuild(t, one(atv("2.5.4.3", api.MaxTag, "a")), seq(setOf(part("\x1f\xff\xff\xff\x7f\x01a"))))
}

// P7.3: ErrLong is what der.Put tells: of a value, of a part, of a set, of all
// sets together.
func TestBuildLong(t *testing.T) {
	most := strings.Repeat("a", api.MaxTotal)
	wantNoBuild(t, one(cn(most+"a")), api.ErrLong)
	wantNoBuild(t, one(cn(most)), api.ErrLong)
	// Ahead of the data stand 5 bytes of the Type, and heads of 5 bytes of the
	// value, of the part and of the set.
	wantNoBuild(t, one(cn(most[10:])), api.ErrLong) // the part is too long for the set
	wantNoBuild(t, one(cn(most[19:])), api.ErrLong) // the set is too long for the name
	b, e := name.Build(one(cn(most[20:])))
	if e != api.OK || string(b) != seq(setOf(part(el(12, most[20:])))) || len(b) != api.MaxTotal+6 {
		t.Errorf("the longest name: error %d, %d bytes", e, len(b))
	}
	half := most[:api.MaxTotal/2]
	wantNoBuild(t, row{{cn(half), cn(half)}}, api.ErrLong)
	wantNoBuild(t, row{{cn(half)}, {cn(half)}}, api.ErrLong)
	// part by part, set by set: what is wrong in a later part is told ahead of
	// what all are together, and what is wrong in a later set behind it
	wantNoBuild(t, row{{cn(half), cn(half), atv("1", 12, "")}}, api.ErrForm)
	wantNoBuild(t, row{{cn(half), cn(half)}, {}}, api.ErrLong)
	wantNoBuild(t, row{{cn(half)}, {cn(half)}, {}}, api.ErrNone)
	wantNoBuild(t, row{{cn(most), atv("1", 12, "")}}, api.ErrLong)
	wantNoBuild(t, one(atv("1", 0, most+"a")), api.ErrForm)
	wantNoBuild(t, one(atv("1.2", 0, most+"a")), api.ErrArg)
	// a Type that is too long for an element
	great := "1.2" + strings.Repeat(".1", api.MaxTotal)
	wantNoBuild(t, one(atv(great, 12, "")), api.ErrLong)
	wantNoBuild(t, one(atv(great, 0, "")), api.ErrArg)
}

// P7.3: set by set, part by part: the first fault is told.
func TestBuildFromTheLeft(t *testing.T) {
	faults := []struct {
		x api.Atv
		e api.Errno
	}{
		{atv("1", 12, ""), api.ErrForm}, {atv("1.2", 0, ""), api.ErrArg}, {atv("1.2.2147483648", 12, ""), api.ErrLong}, {atv("1", 0, ""), api.ErrForm},
	}
	for _, x := range faults {
		for _, y := range faults {
			wantNoBuild(t, row{{x.x, y.x}}, x.e)
			wantNoBuild(t, row{{cn("a"), x.x, y.x}}, x.e)
			wantNoBuild(t, row{{x.x}, {y.x}}, x.e)
			wantNoBuild(t, row{{cn("a"), x.x}, {y.x, cn("a")}}, x.e)
		}
		wantNoBuild(t, row{{x.x}, {}}, x.e)
		wantNoBuild(t, row{{}, {x.x}}, api.ErrNone)
	}
}

// wrongAtv is a part with a fault or two.
func wrongAtv(r *rand.Rand) api.Atv {
	x := atv(drawnType(r), drawnTag(r), drawnData(r))
	if r.Intn(2) == 0 {
		x.Type = pick(r, "", "1", "3.1", "1.40", "1.01", "a.b", "1.2.2147483648", "2.2147483648")
	}
	if r.Intn(2) == 0 {
		x.Tag = pick(r, 0, -1, api.MaxTag+1)
	}
	return x
}

// P7.3: drawn names against the second writing.
func TestBuildAgainstModel(t *testing.T) {
	seen := map[api.Errno]int{}
	r := rand.New(rand.NewSource(73))
	for range 60000 {
		n := drawn(r)
		for i := range n {
			switch r.Intn(24) {
			case 0:
				n[i] = set{}
			case 1, 2, 3:
				n[i][r.Intn(len(n[i]))] = wrongAtv(r)
			case 4:
				n[i] = often(pick(r, 64, 65), n[i][0])
			}
		}
		b, e := name.Build(n)
		want, err := modelBuild(n)
		if string(b) != want || e != err {
			t.Fatalf("Build(%v): %x, error %d; wanted %x, error %d", n, b, e, want, err)
		}
		seen[e]++
	}
	for _, e := range []api.Errno{api.OK, api.ErrArg, api.ErrLong, api.ErrMany, api.ErrNone, api.ErrForm} {
		if seen[e] < 50 {
			t.Errorf("error %d was seen %d times only", e, seen[e])
		}
	}
}
