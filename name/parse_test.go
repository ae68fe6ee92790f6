package name_test

import (
	"math/rand"
	"strings"
	"testing"

	"chirograph/api"
	"chirograph/name"
)

const (
	good = "\x06\x03\x55\x04\x03" // the identifier 2.5.4.3
	word = "\x0c\x01a"            // a Utf8 a
)

// P7.2: names that are laid well.
func TestParse(t *testing.T) {
	wantParse(t, "\x30\x0d\x31\x0b\x30\x09\x06\x03\x55\x04\x06\x13\x02DE", one(atv("2.5.4.6", api.TagPrintable, "DE")))
	wantParse(t, "\x30\x00", nil)
	wantParse(t, seq(setOf(part(word))), one(cn("a")))
	wantParse(t, seq(setOf(part(word)), setOf(part(word))), row{{cn("a")}, {cn("a")}})
	wantParse(t, seq(setOf(part(word), part("\x0c\x00")), setOf(part("\x0c\x01b"))), row{{cn("a"), cn("")}, {cn("b")}}) // the order is left
	wantParse(t, seq(setOf(part(word), part(word))), row{{cn("a"), cn("a")}})
	wantParse(t, seq(setOf(seq("\x06\x01\x2a", "\x0c\x01a"))), one(atv("1.2", 12, "a")))
	wantParse(t, seq(setOf(seq("\x06\x02\x88\x37", "\x06\x01\x2a"))), one(atv("2.999", 6, "\x2a")))
}

// P7.2: a value is any Universal element that is not Cons; whether it is a
// text plays no part.
func TestParseValues(t *testing.T) {
	for tag := 1; tag <= 30; tag++ {
		wantParse(t, seq(setOf(part(el(tag, "\xff\x00")))), one(atv("2.5.4.3", tag, "\xff\x00")))
		wantParse(t, seq(setOf(part(el(tag)))), one(atv("2.5.4.3", tag, "")))
	}
	wantParse(t, seq(setOf(part("\x1f\x1f\x01a"))), one(atv("2.5.4.3", 31, "a")))
	wantParse(t, seq(setOf(part("\x1f\xff\xff\xff\x7f\x01a"))), one(atv("2.5.4.3", api.MaxTag, "a")))
	long := strings.Repeat("x", 70000)
	wantParse(t, seq(setOf(part(el(12, long)))), one(cn(long)))
}

// P7.2: what der.One tells of the bytes, and of no element, and of more.
func TestParseOne(t *testing.T) {
	n := seq(setOf(part(word)))
	wantNoParse(t, "", api.ErrNone)
	wantNoParse(t, n+n, api.ErrMany)
	wantNoParse(t, n+"\x05\x00", api.ErrMany)
	wantNoParse(t, "\x05\x00"+n, api.ErrMany) // ahead of ErrTag
	wantNoParse(t, n+"\x00", api.ErrTag)
	wantNoParse(t, n+"\x05", api.ErrShort)
	wantNoParse(t, "\x05", api.ErrShort)
	wantNoParse(t, "\x30\x80\x00\x00", api.ErrSize)
	wantNoParse(t, "\x30\x81\x00", api.ErrSize)
	wantNoParse(t, "\x00\x00", api.ErrTag)
	wantNoParse(t, "\x31\x01", api.ErrSize)
	wantNoParse(t, string(make([]byte, api.MaxTotal+1)), api.ErrLong)
	for i := range len(n) {
		wantNoParse(t, n[:i], []api.Errno{api.ErrNone, api.ErrShort, api.ErrSize}[min(i, 2)])
	}
}

// heads has the first bytes of elements, Cons and not, of all classes, but one;
// those of tags of many bytes aside.
func heads(but int) []int {
	var l []int
	for c := range 256 {
		if c&0x1f != 0x1f && c != but {
			l = append(l, c)
		}
	}
	return l
}

// P7.2: each element is of just one class and tag, Cons or not, as it must be.
func TestParseTags(t *testing.T) {
	for _, c := range heads(0x30) {
		wantNoParse(t, el(c, setOf(part(word))), api.ErrTag)
		wantNoParse(t, el(c), api.ErrTag)
		wantNoParse(t, el(c, "\x05"), api.ErrTag) // ahead of what is in it
		wantNoParse(t, seq(setOf(el(c, good, word))), api.ErrTag)
		wantNoParse(t, seq(setOf(el(c, "\x05"))), api.ErrTag)
		wantNoParse(t, seq(setOf(part(word), el(c, good, word))), api.ErrTag)
	}
	for _, c := range heads(0x31) {
		wantNoParse(t, seq(el(c, part(word))), api.ErrTag)
		wantNoParse(t, seq(el(c)), api.ErrTag)
		wantNoParse(t, seq(el(c, "\x05")), api.ErrTag)
		wantNoParse(t, seq(setOf(part(word)), el(c, part(word))), api.ErrTag)
	}
	for _, c := range heads(0x06) {
		wantNoParse(t, seq(setOf(seq(el(c, "\x55\x04\x03"), word))), api.ErrTag)
		wantNoParse(t, seq(setOf(seq(el(c, "\x80"), word))), api.ErrTag) // ahead of the identifier
	}
	for _, c := range heads(-1) {
		if c >= 0x20 {
			wantNoParse(t, seq(setOf(part(el(c, "a")))), api.ErrTag)
			wantNoParse(t, seq(setOf(part(el(c, word)))), api.ErrTag)
			wantNoParse(t, seq(setOf(seq("\x06\x01\x80", el(c, word)))), api.ErrTag)
		}
	}
	for _, s := range []string{"\x3f\x1f\x00", "\x3f\x30\x00", "\x3f\x81\x10\x00", "\x7f\x1f\x00"} { // tags of many bytes
		wantNoParse(t, s, api.ErrTag)
		wantNoParse(t, seq(s), api.ErrTag)
		wantNoParse(t, seq(setOf(s)), api.ErrTag)
		wantNoParse(t, seq(setOf(part(s))), api.ErrTag)
	}
}

// P7.2: a part is of just two elements.
func TestParseTwo(t *testing.T) {
	wantNoParse(t, seq(setOf(seq())), api.ErrTag)
	wantNoParse(t, seq(setOf(seq(good))), api.ErrTag)
	wantNoParse(t, seq(setOf(seq(word))), api.ErrTag)
	wantNoParse(t, seq(setOf(seq(word, good))), api.ErrTag)
	wantNoParse(t, seq(setOf(seq(good, word, word))), api.ErrTag)
	wantNoParse(t, seq(setOf(seq(good, good, word))), api.ErrTag)
	wantNoParse(t, seq(setOf(seq("\x06\x01\x80", word, word))), api.ErrTag)
	wantParse(t, seq(setOf(seq(good, good))), one(atv("2.5.4.3", api.TagOid, "\x55\x04\x03")))
}

// P7.2: what Split tells of the Data, in each depth.
func TestParseSplit(t *testing.T) {
	for _, x := range []struct {
		b string
		e api.Errno
	}{
		{"\x05", api.ErrShort}, {"\x1f", api.ErrShort}, {"\x05\x81", api.ErrShort},
		{"\x00\x00", api.ErrTag}, {"\x1f\x80", api.ErrTag}, {"\x1f\x1e\x00", api.ErrTag},
		{"\x05\x01", api.ErrSize}, {"\x30\x80\x00\x00", api.ErrSize}, {"\x05\x81\x00", api.ErrSize}, {"\x05\xff", api.ErrSize},
	} {
		wantNoParse(t, seq(x.b), x.e)
		wantNoParse(t, seq(setOf(part(word)), x.b), x.e)
		wantNoParse(t, seq("\x05\x00", x.b), x.e) // ahead of what an earlier element is
		wantNoParse(t, seq(setOf(x.b)), x.e)
		wantNoParse(t, seq(setOf(part(word), x.b)), x.e)
		wantNoParse(t, seq(setOf("\x05\x00", x.b)), x.e)
		wantNoParse(t, seq(setOf(seq(x.b))), x.e)
		wantNoParse(t, seq(setOf(part(x.b))), x.e)
		wantNoParse(t, seq(setOf(seq(good, word, x.b))), x.e)
	}
}

// P7.2: identifiers that are none.
func TestParseOid(t *testing.T) {
	for _, x := range []struct {
		b string
		e api.Errno
	}{
		{"", api.ErrForm}, {"\x80", api.ErrForm}, {"\x80\x01", api.ErrForm}, {"\x55\x84", api.ErrForm}, {"\x55\x80\x04", api.ErrForm},
		{"\x2a\x88\x80\x80\x80\x00", api.ErrLong}, {"\x88\x80\x80\x80\x50", api.ErrLong},
	} {
		wantNoParse(t, seq(setOf(seq(el(6, x.b), word))), x.e)
		wantNoParse(t, seq(setOf(part(word), seq(el(6, x.b), word)), setOf(part(word))), x.e)
	}
	wantParse(t, seq(setOf(seq(el(6, "\x2a\x87\xff\xff\xff\x7f"), word))), one(atv("1.2.2147483647", 12, "a")))
	wantParse(t, seq(setOf(seq(el(6, "\x88\x80\x80\x80\x4f"), word))), one(atv("2.2147483647", 12, "a")))
}

// P7.2: MaxRdns sets, and parts in one, are allowed, and no more; a set has
// one at least.
func TestParseCounts(t *testing.T) {
	p := part(word)
	s := setOf(p)
	wantParse(t, seq(often(64, s)...), often(64, set{cn("a")}))
	wantNoParse(t, seq(often(65, s)...), api.ErrMany)
	wantParse(t, seq(setOf(often(64, p)...)), row{often(64, cn("a"))})
	wantNoParse(t, seq(setOf(often(65, p)...)), api.ErrMany)
	wantParse(t, seq(s, setOf(often(64, p)...), s), row{{cn("a")}, often(64, cn("a")), {cn("a")}})
	wantNoParse(t, seq(s, setOf(often(65, p)...), s), api.ErrMany)
	wantParse(t, seq(often(64, setOf(often(64, p)...))...), often(64, set(often(64, cn("a")))))
	wantNoParse(t, seq(setOf()), api.ErrNone)
	wantNoParse(t, seq(s, setOf()), api.ErrNone)
	wantNoParse(t, seq(setOf(), s), api.ErrNone)
	wantNoParse(t, seq(often(65, "\x05\x00")...), api.ErrMany)        // ahead of ErrTag
	wantNoParse(t, seq(setOf(often(65, "\x05\x00")...)), api.ErrMany) // here too
	wantNoParse(t, seq(often(64, "\x05\x00")...), api.ErrTag)
	wantNoParse(t, seq(setOf(often(64, "\x05\x00")...)), api.ErrTag)
	wantNoParse(t, seq(strings.Join(often(65, s), ""), "\x05"), api.ErrShort) // Split's error is ahead of ErrMany
	wantNoParse(t, seq(setOf(strings.Join(often(65, p), ""), "\x05")), api.ErrShort)
	wantNoParse(t, seq(strings.Repeat("\x05\x00", api.MaxElems+1)), api.ErrMany)
}

// P7.2: the first fault from the left: all of a set's ahead of the next one's,
// all of a part's ahead of the next one's.
func TestParseFromTheLeft(t *testing.T) {
	faults := []struct {
		set string
		e   api.Errno
	}{
		{setOf(), api.ErrNone},
		{"\x05\x00", api.ErrTag},
		{setOf("\x05"), api.ErrShort},
		{setOf(often(65, part(word))...), api.ErrMany},
		{setOf("\x05\x00"), api.ErrTag},
		{setOf(seq("\x05")), api.ErrShort},
		{setOf(seq(good)), api.ErrTag},
		{setOf(seq("\x06\x01\x80", word)), api.ErrForm},
		{setOf(seq("\x06\x06\x2a\x88\x80\x80\x80\x00", word)), api.ErrLong},
	}
	for _, x := range faults {
		for _, y := range faults {
			wantNoParse(t, seq(x.set, y.set), x.e)
			wantNoParse(t, seq(setOf(part(word)), x.set, y.set), x.e)
		}
	}
	parts := []struct {
		part string
		e    api.Errno
	}{
		{"\x05\x00", api.ErrTag},
		{seq("\x05"), api.ErrShort},
		{seq("\x05\x01"), api.ErrSize},
		{seq(good), api.ErrTag},
		{seq("\x06\x01\x80", word), api.ErrForm},
		{seq("\x06\x06\x2a\x88\x80\x80\x80\x00", word), api.ErrLong},
	}
	for _, x := range parts {
		for _, y := range parts {
			wantNoParse(t, seq(setOf(x.part, y.part), setOf()), x.e)
			wantNoParse(t, seq(setOf(part(word), x.part, y.part)), x.e)
		}
	}
}

// laidByChance is like a name, with faults here and there.
func laidByChance(r *rand.Rand) string {
	chance := func() bool { return r.Intn(20) == 0 }
	wrong := func() string {
		return pick(r, "\x05\x00", "\x05", "\x00\x00", "\x05\x01", "\x30\x00", "\x31\x00", "\x10\x00", "\x11\x00", "\xb0\x00", "\x05\x81\x00", good, word)
	}
	first := func(c int) int {
		if chance() {
			return pick(r, 0x30, 0x31, 0x10, 0x11, 0x70, 0x71, 0xb0, 0x06, 0x26, 0x46, 0x0c, 0x2c, 0x8c)
		}
		return c
	}
	many := func(of func() string, low int) string {
		n := low + r.Intn(4-low)
		switch {
		case r.Intn(60) == 0:
			n = pick(r, 64, 65)
		case chance():
			n = 0
		}
		s := ""
		for range n {
			if r.Intn(40) == 0 {
				s += wrong()
			}
			s += of()
		}
		if r.Intn(40) == 0 {
			s += wrong()
		}
		return s
	}
	laidPart := func() string {
		kind := pick(r, "\x55\x04\x03", "\x55\x04\x06", "\x2a", "\x88\x37")
		if chance() {
			kind = pick(r, "", "\x80", "\x55\x80", "\x2a\x88\x80\x80\x80\x00")
		}
		two := el(first(0x06), kind) + el(first(pick(r, 0x0c, 0x13, 0x1e, 0x04)), pick(r, "", "a", "DE", "\xff"))
		if chance() {
			two += wrong()
		}
		return el(first(0x30), two)
	}
	laidSet := func() string { return el(first(0x31), many(laidPart, 1)) }
	return el(first(0x30), many(laidSet, 0))
}

// P7.2: drawn bytes against the second writing.
func TestParseAgainstModel(t *testing.T) {
	seen := map[api.Errno]int{}
	ask := func(b string) {
		n, e := name.Parse([]byte(b))
		want, err := modelParse([]byte(b))
		if e != err || !equal(n, want) {
			t.Fatalf("Parse(%x): %v, error %d; wanted %v, error %d", b, n, e, want, err)
		}
		seen[e]++
	}
	r := rand.New(rand.NewSource(72))
	for range 60000 {
		b := laidByChance(r)
		ask(b)
		c := []byte(b)
		c[r.Intn(len(c))] = byte(pick(r, 0x30, 0x31, 0x06, 0x0c, 0, 1, 2, 3, r.Intn(256)))
		ask(string(c[:len(c)-r.Intn(2)*r.Intn(2)]))
	}
	for _, e := range []api.Errno{api.OK, api.ErrShort, api.ErrLong, api.ErrMany, api.ErrNone, api.ErrForm, api.ErrTag, api.ErrSize} {
		if seen[e] < 50 {
			t.Errorf("error %d was seen %d times only", e, seen[e])
		}
	}
}

// P7.2: all that three or four bytes can be.
func TestParseFewBytes(t *testing.T) {
	ask := func(b ...byte) {
		n, e := name.Parse(b)
		if want, err := modelParse(b); e != err || !equal(n, want) {
			t.Fatalf("Parse(%x): error %d; wanted %d", b, e, err)
		}
	}
	for i := range 1 << 16 {
		ask(byte(i>>8), byte(i))
		ask(0x30, 2, byte(i>>8), byte(i))
		ask(0x30, 4, 0x31, 2, byte(i>>8), byte(i))
		ask(0x30, 9, 0x31, 7, 0x30, 5, 0x06, 1, 0x2a, byte(i>>8), byte(i))
		ask(0x30, 10, 0x31, 8, 0x30, 6, byte(i>>8), 1, byte(i), 0x0c, 1, 'a')
	}
}
