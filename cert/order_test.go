package cert_test

import (
	"slices"
	"testing"

	"chirograph/api"
)

// P12.3: limits, what is there twice, and which error is told first.

// manyExts are n extensions, no two alike.
func manyExts(n int) [][]byte {
	var l [][]byte
	for i := range n {
		l = append(l, seq(el(0x06, []byte{0x2a, 0x81 + byte(i/100), byte(i % 100)}), hx("04 00")))
	}
	return l
}

func TestMany(t *testing.T) {
	for _, n := range []int{1, 2, 63, api.MaxExts} {
		wantExts(t, "as many as may be", nothing, manyExts(n)...)
	}
	for _, n := range []int{api.MaxExts + 1, api.MaxExts + 2, 100, 128, 256, 320, 1000} {
		wantNoExts(t, "too many", api.ErrMany, manyExts(n)...)
	}
	known := append(manyExts(63), must(19, seq(yes)))
	wantExts(t, "the last one counts", func(c *api.Cert) { c.Ca = true }, known...)
}

// Where there are too many, what stands in them plays no part.
func TestManyAreNotLookedAt(t *testing.T) {
	for _, x := range [][]byte{seq(), hx("30 01 05"), hx("30 02 30 80"), seq(void), other(1), other(1, yes), ext(19), ext(19, void), must(15, hx("03 01 09")), seq(hx("06 01 80"), hx("04 00"))} {
		wantNoExts(t, "too many, all alike", api.ErrMany, often(65, x)...)
		wantNoExts(t, "too many, the last one wrong", api.ErrMany, append(manyExts(64), x)...)
		wantNoExts(t, "too many, the first one wrong", api.ErrMany, append([][]byte{x}, manyExts(64)...)...)
	}
	wantNoExts(t, "one wrong, not too many", api.ErrForm, append(manyExts(63), seq())...)
	wantNoExts(t, "as many as Split takes", api.ErrMany, slices.Concat(often(api.MaxElems, seq())...))
	wantNoExts(t, "more than Split takes", api.ErrForm, slices.Concat(often(api.MaxElems+1, seq())...))
	wantNoExts(t, "a piece of one behind", api.ErrForm, append(manyExts(65), []byte{0x30})...)
}

func TestTwice(t *testing.T) {
	wantNoExts(t, "nobody knows it", api.ErrTwice, other(1), other(1))
	wantNoExts(t, "with another Bool", api.ErrTwice, other(1), other(1, yes))
	wantNoExts(t, "with other Octets", api.ErrTwice, seq(hx("06 01 2a"), hx("04 01 01")), seq(hx("06 01 2a"), hx("04 01 02")))
	wantNoExts(t, "one between", api.ErrTwice, other(1), other(2), other(1))
	wantNoExts(t, "three times", api.ErrTwice, other(1), other(1), other(1))
	wantExts(t, "two of each their own", nothing, other(1), other(2))
	for n, value := range knownExts() {
		wantNoExts(t, "one that is known", api.ErrTwice, ext(n, value), ext(n, value))
		wantNoExts(t, "one that is known", api.ErrTwice, must(n, value), other(3), ext(n, value))
		wantNoExts(t, "the second one wrong", api.ErrForm, ext(n, value), ext(n, void))
		wantNoExts(t, "the first one wrong", api.ErrForm, ext(n, void), ext(n, value))
	}
	l := manyExts(64)
	l[63] = l[0]
	wantNoExts(t, "the first and the last one", api.ErrTwice, l...)
}

// A fault, and the error by which it is told.
type fault struct {
	e     api.Errno
	spoil func(c *laid)
}

// faults stand in the order in which they are told. Each leaves the others be.
func faults() []fault {
	return []fault{
		{api.ErrForm, func(c *laid) { c.sig = hx("03 02 01 00") }},
		{api.ErrForm, func(c *laid) { c.in[subject] = hx("30 02 05 00") }},
		{api.ErrMany, func(c *laid) { *c = c.extended(append(manyExts(64), seq())...) }},
		{api.ErrVersion, func(c *laid) { c.in[version] = hx("a0 03 02 01 03") }},
		{api.ErrAlg, func(c *laid) { *c = c.signing(hx("30 00")) }},
		{api.ErrKey, func(c *laid) { c.in[key] = seq(hx(hexRsa), hx("03 01 00")) }},
		{api.ErrTwice, func(c *laid) {
			if !slices.Equal(c.in[exts], plain().extended(append(manyExts(64), seq())...).in[exts]) {
				*c = c.extended(other(1), other(1))
			}
		}},
	}
}

// The first fault is told, whichever others there are.
func TestFirstError(t *testing.T) {
	all := faults()
	for set := range 1 << len(all) {
		c, first := plain(), api.OK
		for i, f := range all {
			if set>>i&1 == 0 {
				continue
			}
			f.spoil(&c)
			if first == api.OK {
				first = f.e
			}
		}
		if first == api.OK {
			wantLaid(t, "no fault", c, nil)
		} else {
			wantNoParse(t, "faults", c.bytes(), first)
		}
	}
}

// What is no key's algorithm is told as what is no way to sign, and ahead of
// what is twice; a way that is none, ahead of a key that is none.
func TestAlgorithmErrors(t *testing.T) {
	noAlg, noKey := hx("30 00"), seq(hx(hexRsa), hx("03 01 00"))
	twice := plain().extended(other(1), other(1))
	wantNoParse(t, "twice alone", twice.bytes(), api.ErrTwice)
	wantNoParse(t, "no key's algorithm", twice.with(key, noAlg).bytes(), api.ErrAlg)
	wantNoParse(t, "no key", twice.with(key, noKey).bytes(), api.ErrKey)
	wantNoParse(t, "no way", twice.signing(noAlg).bytes(), api.ErrAlg)
	wantNoParse(t, "no way, no key", twice.signing(noAlg).with(key, noKey).bytes(), api.ErrAlg)
	wantNoParse(t, "no version, no way, no key", twice.with(version).signing(noAlg).with(key, noKey).bytes(), api.ErrVersion)
	wantNoParse(t, "version 1, no key", twice.with(version, hx("a0 03 02 01 01")).with(key, noKey).bytes(), api.ErrVersion)
	many := plain().extended(manyExts(65)...).with(version).with(key, noKey)
	wantNoParse(t, "too many, no version, no key", many.bytes(), api.ErrMany)
	many.again = noAlg
	wantNoParse(t, "and another way behind", many.bytes(), api.ErrForm)
}

// Wherever it is, what is not laid as it must be is told first.
func TestFormFirst(t *testing.T) {
	bad := plain().extended(append(manyExts(64), other(9))...).with(version, hx("a0 03 02 01 07")).with(key, hx("30 00")).signing(hx("30 00"))
	wantNoParse(t, "all but the form", bad.bytes(), api.ErrMany)
	for field, b := range map[int][]byte{version: hx("a0 04 02 02 00 07"), serial: hx("02 02 00 05"), way: hx("30 02 05 00"), issuer: hx("31 00"), times: hx("30 00"), subject: hx("05 00"), key: hx("31 00"), issuerBits: hx("a1 00"), subjectBits: hx("a2 00"), exts: hx("a3 02 30 00")} {
		wantNoParse(t, "a field", bad.with(field, b).bytes(), api.ErrForm)
	}
	c := bad
	c.sig = hx("03 00")
	wantNoParse(t, "the signature", c.bytes(), api.ErrForm)
	wantNoParse(t, "a byte behind", append(bad.bytes(), 0), api.ErrForm)
	less := plain().with(version).signing(hx("30 00")).with(key, hx("30 00"))
	for n := range knownExts() {
		wantNoParse(t, "in an extension", less.extended(other(1), other(1), ext(n, void)).bytes(), api.ErrForm)
	}
}

// As long as bytes may be, and one more.
func TestLong(t *testing.T) {
	for _, more := range []int{0, 1} {
		c := plain()
		c.in[issuerBits] = el(0x81, make([]byte, 0xff0000)) // lengths of as many bytes as at the end
		fill := 0xff0000 + api.MaxTotal - len(c.bytes()) + more
		c.in[issuerBits] = el(0x81, make([]byte, fill))
		if b := c.bytes(); more == 0 && len(b) == api.MaxTotal {
			wantLaid(t, "as long as may be", c, nil)
		} else if len(b) == api.MaxTotal+1 {
			wantNoParse(t, "one byte more", b, api.ErrForm)
		} else {
			t.Fatalf("%d bytes", len(b))
		}
	}
}
