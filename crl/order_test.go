package crl_test

import (
	"slices"
	"testing"

	"chirograph/api"
)

// P13.2: limits, what is there twice, and which error is told first.

func TestMany(t *testing.T) {
	for _, n := range []int{1, 2, 63, api.MaxExts} {
		wantExts(t, "as many as may be", nothing, manyExts(n)...)
		wantEntry(t, "as many as may be", 0, false, manyExts(n)...)
	}
	for _, n := range []int{api.MaxExts + 1, api.MaxExts + 2, 100, 128, 256, 320, 1000} {
		wantNoExts(t, "too many", api.ErrMany, manyExts(n)...)
		wantNoEntry(t, "too many", api.ErrMany, manyExts(n)...)
	}
	wantExts(t, "the last one counts", func(c *api.Crl) { c.Aki = []byte{7} }, append(manyExts(63), ext(35, seq(hx("80 01 07"))))...)
	wantEntry(t, "the last one counts", 3, false, append(manyExts(63), ext(21, reason(3)))...)
	full := entry([]byte{1}, manyExts(64)...)
	one := api.Gone{Serial: []byte{1}}
	wantLaid(t, "as many as may be, everywhere", plain().listing(full, full, full).extended(manyExts(64)...), gone(one, one, one))
}

// Where there are too many, what stands in them plays no part.
func TestManyAreNotLookedAt(t *testing.T) {
	for _, x := range [][]byte{seq(), hx("30 01 05"), hx("30 02 30 80"), seq(void), other(1), other(1, yes), ext(35), ext(20, void), must(21, reason(7)), seq(hx("06 01 80"), hx("04 00"))} {
		for _, l := range [][][]byte{often(65, x), append(manyExts(64), x), append([][]byte{x}, manyExts(64)...)} {
			wantNoExts(t, "too many", api.ErrMany, l...)
			wantNoEntry(t, "too many", api.ErrMany, l...)
		}
	}
	wantNoExts(t, "one wrong, not too many", api.ErrForm, append(manyExts(63), seq())...)
	wantNoEntry(t, "one wrong, not too many", api.ErrForm, append(manyExts(63), seq())...)
	for _, ask := range []func(t *testing.T, what string, asked api.Errno, l ...[]byte){wantNoExts, wantNoEntry} {
		ask(t, "as many as Split takes", api.ErrMany, slices.Repeat(seq(), api.MaxElems))
		ask(t, "more than Split takes", api.ErrForm, slices.Repeat(seq(), api.MaxElems+1))
		ask(t, "a piece of one behind", api.ErrForm, append(manyExts(65), []byte{0x30})...)
	}
}

// Too many at one place hide no fault of the form at another one.
func TestManyHideNothing(t *testing.T) {
	many := entry([]byte{1}, manyExts(65)...)
	for _, bad := range [][]byte{seq(), seq(small(1)), entry([]byte{2}, seq()), entry([]byte{2}, ext(21, reason(7))), entry([]byte{2}, append(manyExts(63), void)...)} {
		wantNoForm(t, "an entry behind", plain().listing(many, bad))
		wantNoForm(t, "an entry ahead", plain().listing(bad, many))
		wantNoForm(t, "an entry, too many of the list", plain().listing(bad).extended(manyExts(65)...))
	}
	wantNoForm(t, "one of the list", plain().listing(many).extended(ext(20, void)))
	wantNoForm(t, "the signature", plain().listing(many).signature(hx("03 00")))
	wantNoParse(t, "too many everywhere", plain().listing(many, many).extended(manyExts(65)...).bytes(), api.ErrMany)
}

func TestTwice(t *testing.T) {
	for _, ask := range []func(t *testing.T, what string, asked api.Errno, l ...[]byte){wantNoExts, wantNoEntry} {
		ask(t, "nobody knows it", api.ErrTwice, other(1), other(1))
		ask(t, "with another Bool", api.ErrTwice, other(1), other(1, yes))
		ask(t, "with other Octets", api.ErrTwice, seq(hx("06 01 2a"), hx("04 01 01")), seq(hx("06 01 2a"), hx("04 01 02")))
		ask(t, "one between", api.ErrTwice, other(1), other(2), other(1))
		ask(t, "three times", api.ErrTwice, other(1), other(1), other(1))
		for n, value := range map[byte][]byte{35: seq(), 20: small(1), 21: reason(1)} {
			ask(t, "one that is known", api.ErrTwice, ext(n, value), ext(n, value))
			ask(t, "one that is known", api.ErrTwice, must(n, value), other(3), ext(n, value))
		}
		l := manyExts(64)
		l[63] = l[0]
		ask(t, "the first and the last one", api.ErrTwice, l...)
		l = manyExts(64)
		l[63] = l[62]
		ask(t, "the last two", api.ErrTwice, l...)
	}
	wantNoExts(t, "the second one wrong", api.ErrForm, ext(20, small(1)), ext(20, void))
	wantNoExts(t, "the first one wrong", api.ErrForm, ext(35, void), ext(35, seq()))
	wantNoEntry(t, "the second one wrong", api.ErrForm, ext(21, reason(1)), ext(21, reason(7)))
}

// What is there once at each of two places is not there twice.
func TestOnceEach(t *testing.T) {
	a := entry([]byte{1}, other(1), ext(21, reason(2)))
	b := entry([]byte{2}, other(1), ext(21, reason(3)))
	first, second := api.Gone{Serial: []byte{1}, Reason: 2}, api.Gone{Serial: []byte{2}, Reason: 3}
	wantLaid(t, "of two entries", plain().listing(a, b), gone(first, second))
	wantLaid(t, "of entries and of the list", plain().listing(a, b).extended(other(1), ext(21, reason(2))), gone(first, second))
	wantLaid(t, "of one entry that is there twice", plain().listing(a, a), gone(first, first))
}

// A fault, and the error by which it is told.
type fault struct {
	e     api.Errno
	spoil func(c laid) laid
}

// faults stand in the order in which they are told. Each leaves the others be.
func faults() []fault {
	also := func(c laid, x []byte) laid { return c.with(entries, seq(c.in[entries][2:], x)) }
	return []fault{
		{api.ErrForm, func(c laid) laid { return c.signature(hx("03 02 01 00")) }},
		{api.ErrForm, func(c laid) laid { return c.with(issuer, hx("30 02 05 00")) }},
		{api.ErrForm, func(c laid) laid { return c.with(next, utc("")) }},
		{api.ErrMany, func(c laid) laid { return c.extended(append(manyExts(64), void)...) }},
		{api.ErrVersion, func(c laid) laid { return c.with(version, hx("02 01 02")) }},
		{api.ErrAlg, func(c laid) laid { return c.signing(hx("30 00")) }},
		{api.ErrTwice, func(c laid) laid { return also(c, entry([]byte{1}, other(1), other(1))) }},
	}
}

// The first fault is told, whichever others there are.
func TestFirstError(t *testing.T) {
	all := faults()
	for set := range 1 << len(all) {
		c, first := plain().listing(), api.OK
		for i, f := range all {
			if set>>i&1 == 0 {
				continue
			}
			c = f.spoil(c)
			if first == api.OK {
				first = f.e
			}
		}
		if first == api.OK {
			wantLaid(t, "no fault", c, nothing)
		} else {
			wantNoParse(t, "faults", c.bytes(), first)
		}
	}
}

// The same, the faults standing elsewhere.
func TestFirstErrorElsewhere(t *testing.T) {
	noWay := hx("30 02 05 00")
	twice := plain().extended(other(1), other(1))
	wantNoParse(t, "twice alone", twice.bytes(), api.ErrTwice)
	wantNoParse(t, "no way", twice.signing(noWay).bytes(), api.ErrAlg)
	wantNoParse(t, "no version, no way", twice.signing(noWay).with(version).bytes(), api.ErrVersion)
	wantNoParse(t, "version 0, twice", twice.with(version, small(0)).bytes(), api.ErrVersion)
	many := twice.listing(entry([]byte{1}, manyExts(65)...)).signing(noWay).with(version)
	wantNoParse(t, "too many of an entry", many.bytes(), api.ErrMany)
	wantNoForm(t, "a Time", many.with(this, utc("")))
	wantNoForm(t, "another way behind", many.with(way, hx(hexRsaSha1)))
	wantNoForm(t, "a serial", many.with(entries, many.in[entries]).listing(entry([]byte{0, 0})))
	wantNoForm(t, "a version", many.with(version, hx("02 02 00 01")))
	wantNoParse(t, "a byte behind", append(many.bytes(), 0), api.ErrForm)
	wantNoForm(t, "a reason, no version", plain().with(version).listing(entry([]byte{1}, ext(21, reason(7)))))
	wantNoForm(t, "a reason, no way, twice", twice.signing(noWay).listing(entry([]byte{1}, ext(21, reason(7)))))
	wantNoForm(t, "the ways differ, and the one that is signed is none", plain().with(way, noWay))
}

// As long as bytes may be, and one more.
func TestLong(t *testing.T) {
	padded := func(n int) laid { return plain().extended(seq(hx("06 01 2a"), el(0x04, make([]byte, n)))) }
	for _, more := range []int{0, 1} {
		fill := 0xff0000 // lengths of as many bytes as at the end
		fill += api.MaxTotal - len(padded(fill).bytes()) + more
		c := padded(fill)
		if b := c.bytes(); more == 0 && len(b) == api.MaxTotal {
			wantLaid(t, "as long as may be", c, nothing)
		} else if len(b) == api.MaxTotal+1 {
			wantNoParse(t, "one byte more", b, api.ErrForm)
		} else {
			t.Fatalf("%d bytes", len(b))
		}
	}
}
