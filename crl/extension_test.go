package crl_test

import (
	"slices"
	"testing"

	"chirograph/api"
)

// P13.1 and P13.2: extensions of a list, and of entries.

// noExtensions are elements that are none.
func noExtensions() [][]byte {
	oid, data := hx("06 02 2a 01"), hx("04 01 ee")
	l := [][]byte{void, oid, data, seq(), seq(oid), seq(data), seq(data, oid), seq(oid, yes), seq(yes, data), seq(yes, oid, data), seq(oid, data, yes), seq(oid, yes, yes, data), seq(oid, data, data), seq(oid, oid, data), seq(oid, yes, data, void), seq(oid, void, data), seq(oid, data, []byte{4}), seq(oid, data, []byte{0, 0}), seq(seq(oid, data)), seq(oid, seq(data))}
	for _, digits := range []string{"01 00", "01 01 01", "01 01 fe", "01 02 ff ff", "21 01 ff", "81 01 ff", "02 01 01"} {
		l = append(l, seq(oid, hx(digits), data))
	}
	for _, digits := range []string{"06 00", "06 01 80", "06 02 80 01", "06 02 2a 81", "06 03 2a 80 01", "06 06 2a 88 80 80 80 00", "26 01 2a", "86 01 2a", "46 01 2a", "04 01 2a", "0d 01 2a", "05 00", "30 03 06 01 2a"} {
		l = append(l, seq(hx(digits), data), seq(hx(digits), yes, data))
	}
	for _, digits := range []string{"24 01 ee", "24 03 04 01 ee", "84 01 ee", "44 01 ee", "03 02 00 ee", "0c 01 61", "02 01 05"} {
		l = append(l, seq(oid, hx(digits)), seq(oid, no, hx(digits)))
	}
	for _, head := range []byte{0x31, 0x10, 0x70, 0xb0, 0xf0, 0xa0, 0x04} {
		l = append(l, el(head, oid, data))
	}
	for _, in := range noRows() {
		l = append(l, seq(in), seq(oid, data, in))
	}
	return l
}

func TestExtensionForms(t *testing.T) {
	wantExts(t, "one", nothing, other(1))
	wantExts(t, "not critical, as it says", nothing, other(1, no))
	wantExts(t, "without anything in it", nothing, seq(hx("06 01 2a"), hx("04 00")))
	wantEntry(t, "one", 0, false, other(1))
	wantEntry(t, "not critical, as it says", 0, false, other(1, no))
	for _, x := range noExtensions() {
		wantNoExts(t, "no extension", api.ErrForm, x)
		wantNoExts(t, "no extension, behind one", api.ErrForm, other(2), x)
		wantNoExts(t, "no extension, ahead of one", api.ErrForm, x, other(2))
		wantNoEntry(t, "no extension", api.ErrForm, x)
		wantNoEntry(t, "no extension, behind one", api.ErrForm, other(2), x)
		wantNoEntry(t, "no extension, ahead of one", api.ErrForm, x, other(2))
	}
}

// The list's stand in a Seq in [0], and there is at least one.
func TestOwnExtensionsStand(t *testing.T) {
	x := other(1)
	wantLaid(t, "as they must", plain().with(exts, el(0xa0, seq(x))), nothing)
	for _, b := range [][]byte{hx("a0 00"), el(0xa0, seq()), el(0xa0, x), el(0xa0, seq(x), seq(x)), el(0xa0, seq(x), void), el(0xa0, void, seq(x)), el(0xa0, seq(x), []byte{5}), el(0xa0, seq(x), []byte{0, 0}), el(0xa0, el(0x31, x)), el(0xa0, el(0xa0, seq(x))), el(0xa0, seq(seq(x))),
		el(0x80, seq(x)), el(0xa1, seq(x)), el(0xa3, seq(x)), el(0xe0, seq(x)), el(0x60, seq(x)), el(0x31, seq(x)), el(0xa0, seq(x), seq())} {
		wantNoForm(t, "not as they must", plain().with(exts, b))
		wantNoForm(t, "not as they must, entries ahead", plain().listing(entry([]byte{1})).with(exts, b))
		wantNoForm(t, "not as they must, behind one Time", plain().with(next).with(exts, b))
	}
	for _, in := range noRows() {
		wantNoForm(t, "no row in [0]", plain().with(exts, el(0xa0, in)))
		wantNoForm(t, "no row in the Seq", plain().with(exts, el(0xa0, seq(in))))
	}
}

// wantValue asks for what a list says that has just this one of the extensions
// 2.5.29.n, critical or not.
func wantValue(t *testing.T, n byte, value []byte, change func(c *api.Crl)) {
	t.Helper()
	wantExts(t, "not critical", change, ext(n, value))
	wantExts(t, "not critical, as it says", change, seq([]byte{6, 3, 0x55, 0x1d, n}, no, el(0x04, value)))
	wantExts(t, "critical", change, must(n, value))
	wantExts(t, "among others", change, other(1), ext(n, value), other(2))
}

// wantNoValue asks whether one whose Octets have these Data is refused.
func wantNoValue(t *testing.T, n byte, value ...[]byte) {
	t.Helper()
	wantNoExts(t, "no value", api.ErrForm, ext(n, value...))
	wantNoExts(t, "no value, critical", api.ErrForm, must(n, value...))
	wantNoExts(t, "no value, behind others", api.ErrForm, other(1), ext(n, value...))
	wantNoExts(t, "no value, ahead of others", api.ErrForm, ext(n, value...), other(1))
}

// wantReason and wantNoReason ask the same of an entry's 2.5.29.21.
func wantReason(t *testing.T, value []byte, asked int) {
	t.Helper()
	wantEntry(t, "not critical", asked, false, ext(21, value))
	wantEntry(t, "not critical, as it says", asked, false, seq([]byte{6, 3, 0x55, 0x1d, 21}, no, el(0x04, value)))
	wantEntry(t, "critical", asked, false, must(21, value))
	wantEntry(t, "among others", asked, false, other(1), ext(21, value), other(2))
}

func wantNoReason(t *testing.T, value ...[]byte) {
	t.Helper()
	wantNoEntry(t, "no reason", api.ErrForm, ext(21, value...))
	wantNoEntry(t, "no reason, critical", api.ErrForm, must(21, value...))
	wantNoEntry(t, "no reason, behind others", api.ErrForm, other(1), ext(21, value...))
	wantNoEntry(t, "no reason, ahead of others", api.ErrForm, ext(21, value...), other(1))
}

// notOne are Data that are not just one element with the head of right.
func notOne(right []byte) [][]byte {
	l := [][]byte{nil, slices.Concat(right, right), slices.Concat(right, void), slices.Concat(void, right), slices.Concat(right, []byte{0}), slices.Concat(right, []byte{0, 0}), right[:len(right)-1], right[:1], el(0x24, right), el(0xa0, right), void, hx("30 80 00 00")}
	for head := range 256 {
		if head == int(right[0]) || head&0x1f == 0x1f {
			continue
		}
		c := slices.Clone(right)
		c[0] = byte(head)
		l = append(l, c)
	}
	return l
}

// Of the issuer's key the first [0]- counts; what stands beside it does not.
func TestIssuerKeys(t *testing.T) {
	k := hx("80 02 07 08")
	is := func(c *api.Crl) { c.Aki = []byte{7, 8} }
	wantValue(t, 35, seq(), nothing)
	wantValue(t, 35, seq(k), is)
	wantValue(t, 35, seq(hx("80 00")), nothing)
	wantValue(t, 35, seq(hx("80 00"), k), nothing) // the first one, though nothing is in it
	wantValue(t, 35, seq(k, hx("80 01 09")), is)
	wantValue(t, 35, seq(hx("a1 00"), hx("82 01 05"), k), is)
	wantValue(t, 35, seq(hx("a0 02 05 00"), k), is)
	wantValue(t, 35, seq(hx("81 01 09")), nothing)
	wantValue(t, 35, seq(hx("a0 03 80 01 09")), nothing)
	wantValue(t, 35, seq(hx("40 01 09"), hx("c0 01 09"), hx("04 01 09")), nothing)
	wantValue(t, 35, seq(el(0x80, often(300, byte(9)))), func(c *api.Crl) { c.Aki = often(300, byte(9)) })
	wantValue(t, 35, seq(hx("30 01 05"), hx("a0 01 05")), nothing) // what is deeper is not looked at
	wantValue(t, 35, seq(slices.Repeat(void, 1000), k), is)
	for _, x := range notOne(seq(k)) {
		wantNoValue(t, 35, x)
	}
	for _, in := range noRows() {
		wantNoValue(t, 35, seq(in))
		wantNoValue(t, 35, seq(k, in))
	}
}

// A list's number is any Int, and plays no part.
func TestNumbers(t *testing.T) {
	for _, data := range [][]byte{{0}, {1}, {0x80}, {0xff}, {0, 0x80}, often(9, byte(1)), often(20, byte(0x7f)), often(3000, byte(0x81))} {
		wantValue(t, 20, el(0x02, data), nothing)
	}
	for _, data := range [][]byte{nil, {0, 0}, {0, 5}, {0xff, 0xff}, {0xff, 0x85}, append([]byte{0}, often(30, byte(1))...)} {
		wantNoValue(t, 20, el(0x02, data))
	}
	for _, x := range notOne(small(5)) {
		wantNoValue(t, 20, x)
	}
	wantNoValue(t, 20, seq(small(5)))
}

func TestReasons(t *testing.T) {
	for n := range 11 {
		if n != 7 {
			wantReason(t, reason(n), n)
		}
	}
	for _, n := range []int{7, 11, 12, 127, 128, 255, 256, 257, 266, 1 << 32, 1<<32 + 1, 1<<63 - 1, -1, -7, -128, -256, -1 << 63} {
		wantNoReason(t, reason(n))
	}
	for _, data := range [][]byte{nil, {0, 0}, {0, 5}, {0xff, 0xff}, {0, 0, 1}, often(9, byte(1)), append([]byte{1}, make([]byte, 8)...), often(3000, byte(1))} {
		wantNoReason(t, el(0x0a, data))
	}
	for _, x := range notOne(reason(5)) {
		wantNoReason(t, x)
	}
	wantNoReason(t, seq(reason(5)))
	wantEntry(t, "none", 0, false)
	wantEntry(t, "others alone", 0, false, other(1), other(2))
}

// Each entry's reason is its own.
func TestReasonsStandAlone(t *testing.T) {
	l := plain().listing(entry([]byte{1}, ext(21, reason(4))), entry([]byte{2}), entry([]byte{3}, other(1)), entry([]byte{4}, ext(21, reason(0))), entry([]byte{5}, ext(21, reason(10))))
	wantLaid(t, "five", l, gone(api.Gone{Serial: []byte{1}, Reason: 4}, api.Gone{Serial: []byte{2}}, api.Gone{Serial: []byte{3}}, api.Gone{Serial: []byte{4}}, api.Gone{Serial: []byte{5}, Reason: 10}))
}

// What stands in other extensions, or in one of the three at the other place, is
// not looked at.
func TestOthersAreNotLookedAt(t *testing.T) {
	for _, value := range [][]byte{nil, {5}, void, {0}, hx("30 80"), hx("02 02 00 05"), hx("0a 01 07"), seq(hx("80 01 09")), small(3), reason(3)} {
		for _, n := range []byte{21, 14, 15, 19, 22, 27, 28, 36} {
			wantExts(t, "of the list", nothing, ext(n, value))
		}
		for _, n := range []byte{35, 20, 14, 22, 23, 24, 29} {
			wantEntry(t, "of an entry", 0, false, ext(n, value))
			wantEntry(t, "of an entry, with a reason", 6, false, ext(n, value), ext(21, reason(6)))
		}
	}
	wantLaid(t, "a key that an entry tells", plain().listing(entry([]byte{5}, ext(35, seq(hx("80 01 09"))))).extended(ext(35, seq(hx("80 01 08")))), func(c *api.Crl) {
		c.Gone, c.Aki = []api.Gone{{Serial: []byte{5}}}, []byte{8}
	})
	wantLaid(t, "a reason that the list tells", plain().listing(entry([]byte{5})).extended(ext(21, reason(3))), gone(api.Gone{Serial: []byte{5}}))
}

// Unknown: a critical one that nobody knows, or that stands at the other place.
func TestUnknown(t *testing.T) {
	is := func(c *api.Crl) { c.Unknown = true }
	for _, value := range [][]byte{nil, {5}, void, reason(3), reason(7), small(1), seq(hx("80 01 09"))} {
		for _, n := range []byte{21, 14, 19, 22, 27, 28, 34, 36} {
			wantExts(t, "of the list", is, must(n, value))
			wantExts(t, "of the list, among others", is, other(1), ext(20, small(1)), must(n, value), must(54, value), other(2))
		}
		for _, n := range []byte{35, 20, 19, 22, 23, 24, 29} {
			wantEntry(t, "of an entry", 0, true, must(n, value))
			wantEntry(t, "of an entry, among others", 9, true, other(1), ext(21, reason(9)), must(n, value), other(2))
		}
	}
	for _, oid := range []string{"06 01 2a", "06 04 55 1d 15 00", "06 04 55 1d 23 01", "06 02 55 1d", "06 03 55 1e 15", "06 03 56 1d 23"} {
		x := seq(hx(oid), yes, hx("04 00"))
		wantExts(t, "of the list", is, x)
		wantEntry(t, "of an entry", 0, true, x)
	}
	wantExts(t, "the three that are known, two of them here", nothing, must(35, seq()), must(20, small(1)), ext(21, reason(1)))
	wantEntry(t, "the three that are known, one of them here", 1, false, ext(35, seq()), ext(20, small(1)), must(21, reason(1)))
}

// One entry is enough, wherever it stands; so is the list.
func TestUnknownAnywhere(t *testing.T) {
	for at := range 5 {
		var l [][]byte
		asked := []api.Gone{}
		for i := range 5 {
			x := other(1)
			if i == at {
				x = other(1, yes)
			}
			l = append(l, entry([]byte{byte(i)}, x))
			asked = append(asked, api.Gone{Serial: []byte{byte(i)}})
		}
		unknown := func(c *api.Crl) { c.Gone, c.Unknown = asked, true }
		wantLaid(t, "an entry's", plain().listing(l...), unknown)
		wantLaid(t, "an entry's, the list's being known", plain().listing(l...).extended(must(20, small(1))), unknown)
		wantLaid(t, "both", plain().listing(l...).extended(other(1, yes)), unknown)
	}
}
