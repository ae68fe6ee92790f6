package cert_test

import (
	"slices"
	"testing"

	"chirograph/api"
)

// P12.1 and P12.3: extensions, one kind after the other.

func nothing(*api.Cert) {}

// knownExts are the ones that are read, each as it may be.
func knownExts() map[byte][]byte {
	return map[byte][]byte{
		14: hx("04 02 01 02"),
		15: hx("03 02 05 a0"),
		17: hx("30 03 82 01 61"),
		19: hx("30 06 01 01 ff 02 01 03"),
		30: hx("30 07 a0 05 30 03 82 01 62"),
		32: hx("30 05 30 03 06 01 2a"),
		35: hx("30 03 80 01 09"),
		36: hx("30 06 80 01 04 81 01 05"),
		37: hx("30 03 06 01 2a"),
		54: hx("02 01 06"),
	}
}

// wantValue asks for what a certificate says that has just this one of the
// extensions 2.5.29.n, critical or not.
func wantValue(t *testing.T, n byte, value []byte, change func(c *api.Cert)) {
	t.Helper()
	wantExts(t, "not critical", change, ext(n, value))
	wantExts(t, "not critical, as it says", change, seq([]byte{6, 3, 0x55, 0x1d, n}, no, el(0x04, value)))
	wantExts(t, "critical", func(c *api.Cert) {
		change(c)
		c.EkuMust = n == 37
	}, must(n, value))
}

// wantNoValue asks whether one whose Octets have these Data is refused.
func wantNoValue(t *testing.T, n byte, value ...[]byte) {
	t.Helper()
	wantNoExts(t, "no value", api.ErrForm, ext(n, value...))
	wantNoExts(t, "no value, critical", api.ErrForm, must(n, value...))
	wantNoExts(t, "no value, behind others", api.ErrForm, other(1), ext(n, value...))
	wantNoExts(t, "no value, ahead of others", api.ErrForm, ext(n, value...), other(1))
}

// wantOneElement asks whether the Octets have just one element with that head.
func wantOneElement(t *testing.T, n byte, right []byte) {
	t.Helper()
	wantNoValue(t, n)
	wantNoValue(t, n, right, right)
	wantNoValue(t, n, right, void)
	wantNoValue(t, n, right, []byte{0})
	wantNoValue(t, n, right, []byte{0, 0})
	wantNoValue(t, n, void, right)
	wantNoValue(t, n, right[:len(right)-1])
	if n != 35 { // which takes whatever elements
		wantNoValue(t, n, seq(right))
	}
	wantNoValue(t, n, el(0x24, right))
	wantNoValue(t, n, void)
	wantNoValue(t, n, []byte{0x30, 0x80, 0, 0})
	for head := range 256 {
		if head == int(right[0]) || head&0x1f == 0x1f {
			continue
		}
		c := slices.Clone(right)
		c[0] = byte(head)
		wantNoExts(t, "another head", api.ErrForm, ext(n, c))
	}
}

func TestOneElementEach(t *testing.T) {
	for n, right := range knownExts() {
		wantOneElement(t, n, right)
	}
}

func TestConstraints(t *testing.T) {
	wantValue(t, 19, hx("30 00"), nothing)
	wantValue(t, 19, seq(no), nothing)
	wantValue(t, 19, seq(yes), func(c *api.Cert) { c.Ca = true })
	for _, n := range []int{0, 1, 2, 127, 128, 255, 256, 999, 1000} {
		wantValue(t, 19, seq(yes, small(n)), func(c *api.Cert) { c.Ca, c.Below = true, n })
		wantValue(t, 19, seq(no, small(n)), func(c *api.Cert) { c.Below = n })
		wantValue(t, 19, seq(small(n)), func(c *api.Cert) { c.Below = n })
	}
	for _, x := range noCounts() {
		wantNoValue(t, 19, seq(yes, el(0x02, x)))
		wantNoValue(t, 19, seq(el(0x02, x)))
	}
	for _, x := range [][]byte{{1, 0}, {1, 1, 1}, {1, 1, 0xfe}, {1, 2, 0xff, 0xff}, {0x21, 1, 0xff}, {0x81, 1, 0xff}} {
		wantNoValue(t, 19, seq(x))
		wantNoValue(t, 19, seq(x, small(1)))
	}
	for _, x := range [][]byte{hx("22 01 01"), hx("0a 01 01"), hx("82 01 01"), void, seq()} {
		wantNoValue(t, 19, seq(yes, x))
		wantNoValue(t, 19, seq(x))
	}
	wantNoValue(t, 19, seq(small(1), yes))
	wantNoValue(t, 19, seq(yes, yes))
	wantNoValue(t, 19, seq(small(1), small(1)))
	wantNoValue(t, 19, seq(yes, small(1), small(1)))
	wantNoValue(t, 19, seq(yes, small(1), void))
	wantNoValue(t, 19, seq(yes, small(1), []byte{2}))
}

// noCounts are Data of which der.Int tells no number from 0 to 1000.
func noCounts() [][]byte {
	l := [][]byte{nil, {0, 0}, {0, 5}, {0xff, 0xff}, {0xff, 0x85}, {0, 0, 5}, often(9, byte(1)), append([]byte{1}, make([]byte, 8)...), append([]byte{0}, often(8, byte(0xff))...), often(3000, byte(1))}
	for _, n := range []int{-1, -2, -128, -129, -1000, 1001, 1002, 1023, 1024, 65536, 1 << 32, 1<<32 + 1, 1<<63 - 1, -1 << 63} {
		l = append(l, small(n)[2:])
	}
	return l
}

func TestUsage(t *testing.T) {
	for _, x := range []struct {
		digits string
		usage  int
	}{
		{"00", 0}, {"00 00", 0}, {"07 00", 0}, {"07 80", api.UseSign}, {"06 40", api.UseContent}, {"02 04", api.UseCertSign}, {"01 02", api.UseCrlSign}, {"01 06", api.UseCertSign | api.UseCrlSign},
		{"00 ff", 255}, {"05 a0", 5}, {"07 00 80", 256}, {"07 ff 80", 511}, {"00 00 00 00 01", 1 << 31}, {"00 ff ff ff ff", 1<<32 - 1}, {"00 00 00 00 00", 0}, {"03 00 00 00 f8", 0x1f << 24},
	} {
		wantValue(t, 15, el(0x03, hx(x.digits)), func(c *api.Cert) { c.Usage = x.usage })
	}
	for _, digits := range []string{"", "01", "07", "08", "08 00", "01 01", "07 40", "ff 00", "00 00 00 00 00 00", "00 ff ff ff ff ff", "07 00 00 00 00 80"} {
		wantNoValue(t, 15, el(0x03, hx(digits)))
	}
	wantNoValue(t, 15, el(0x23, hx("03 02 05 a0")))
}

func TestUses(t *testing.T) {
	o := hx("06 08 2b 06 01 05 05 07 03 08")
	wantExts(t, "one", func(c *api.Cert) { c.Eku = []string{"1.3.6.1.5.5.7.3.8"} }, ext(37, seq(o)))
	wantExts(t, "one, critical", func(c *api.Cert) { c.Eku, c.EkuMust = []string{"1.3.6.1.5.5.7.3.8"}, true }, must(37, seq(o)))
	wantExts(t, "one, not critical, as it says", func(c *api.Cert) { c.Eku = []string{"1.3.6.1.5.5.7.3.8"} }, seq([]byte{6, 3, 0x55, 0x1d, 37}, no, el(0x04, seq(o))))
	wantValue(t, 37, seq(o, hx("06 01 2a"), o), func(c *api.Cert) { c.Eku = []string{"1.3.6.1.5.5.7.3.8", "1.2", "1.3.6.1.5.5.7.3.8"} })
	wantValue(t, 37, seq(hx("06 04 55 1d 25 00")), func(c *api.Cert) { c.Eku = []string{"2.5.29.37.0"} })
	wantExts(t, "another one is critical", func(c *api.Cert) { c.Eku, c.Inhibit = []string{"1.2"}, 0 }, ext(37, seq(hx("06 01 2a"))), must(54, small(0)))
	wantCounts(t, 37, hx("06 01 2a"), func(c *api.Cert, n int) { c.Eku = often(n, "1.2") })
	for _, x := range noOids() {
		wantNoValue(t, 37, seq(x))
		wantNoValue(t, 37, seq(o, x))
		wantNoValue(t, 37, seq(x, o))
	}
}

// noOids are elements that are none.
func noOids() [][]byte {
	return [][]byte{hx("06 00"), hx("06 01 80"), hx("06 02 80 01"), hx("06 02 2a 81"), hx("06 03 2a 80 01"), hx("06 06 2a 88 80 80 80 00"), hx("26 01 2a"), hx("86 01 2a"), hx("46 01 2a"), hx("04 01 2a"), hx("0d 01 2a"), void, hx("30 03 06 01 2a")}
}

// wantCounts asks for one to MaxNames, and for no others.
func wantCounts(t *testing.T, n byte, x []byte, change func(c *api.Cert, n int)) {
	t.Helper()
	for _, count := range []int{1, 2, 63, 64} {
		wantValue(t, n, seq(often(count, x)...), func(c *api.Cert) { change(c, count) })
	}
	for _, count := range []int{0, 65, 66, 128, 256, 320, 1000} {
		wantNoValue(t, n, seq(often(count, x)...))
	}
}

func TestAlternativeNames(t *testing.T) {
	wantValue(t, 17, seq(hx("82 01 61"), hx("81 03 62 40 63"), el(0xa4, hx(hexGermany)), hx("87 04 01 02 03 04"), hx("a0 00"), hx("a3 00"), hx("a5 00"), hx("86 01 ff"), hx("88 00"), hx("87 10 00 01 02 03 04 05 06 07 08 09 0a 0b 0c 0d 0e 0f")), func(c *api.Cert) {
		c.Names = []api.Gen{{Kind: api.GenDns, Text: "a"}, {Kind: api.GenMail, Text: "b@c"}, {Kind: api.GenDir, Dir: nameOf("2.5.4.6", "DE")}, {Kind: api.GenIp, Ip: []byte{1, 2, 3, 4}}, {Kind: 0}, {Kind: 3}, {Kind: 5}, {Kind: 6}, {Kind: 8}, {Kind: api.GenIp, Ip: hx("00 01 02 03 04 05 06 07 08 09 0a 0b 0c 0d 0e 0f")}}
	})
	wantValue(t, 17, seq(hx("82 00")), func(c *api.Cert) { c.Names = []api.Gen{{Kind: api.GenDns}} })
	wantCounts(t, 17, hx("82 01 61"), func(c *api.Cert, n int) { c.Names = often(n, api.Gen{Kind: api.GenDns, Text: "a"}) })
	for _, digits := range []string{"82 01 80", "a2 00", "a1 00", "84 0f" + hexGermany, "a4 00", "87 08 00 00 00 00 00 00 00 00", "87 00", "87 03 00 00 00", "a7 04 00 00 00 00", "80 00", "83 00", "85 00", "a6 00", "a8 00", "89 00", "a9 00", "16 01 61", "42 01 61", "c2 01 61", "30 03 82 01 61"} {
		wantNoValue(t, 17, seq(hx(digits)))
		wantNoValue(t, 17, seq(hx("82 01 61"), hx(digits)))
	}
}

func TestBounds(t *testing.T) {
	a, b := api.Gen{Kind: api.GenDns, Text: "a"}, api.Gen{Kind: api.GenMail, Text: "b"}
	dns, mail := seq(hx("82 01 61")), seq(hx("81 01 62"))
	wantValue(t, 30, seq(), nothing)
	wantValue(t, 30, seq(el(0xa0, dns)), func(c *api.Cert) { c.Permitted = []api.Gen{a} })
	wantValue(t, 30, seq(el(0xa1, dns)), func(c *api.Cert) { c.Excluded = []api.Gen{a} })
	wantValue(t, 30, seq(el(0xa0, dns, mail), el(0xa1, mail)), func(c *api.Cert) { c.Permitted, c.Excluded = []api.Gen{a, b}, []api.Gen{b} })
	wantValue(t, 30, seq(el(0xa0, mail), el(0xa1, mail, dns, dns)), func(c *api.Cert) { c.Permitted, c.Excluded = []api.Gen{b}, []api.Gen{b, a, a} })
	net := hx("0a 00 00 00 ff 00 00 00")
	wantValue(t, 30, seq(el(0xa0, seq(el(0x87, net)), seq(el(0xa4, hx(hexRoot)))), el(0xa1, seq(el(0x87, often(32, byte(9)))))), func(c *api.Cert) {
		c.Permitted = []api.Gen{{Kind: api.GenIp, Ip: net}, {Kind: api.GenDir, Dir: nameOf("2.5.4.10", "Root")}}
		c.Excluded = []api.Gen{{Kind: api.GenIp, Ip: often(32, byte(9))}}
	})
	for count := range 70 {
		for _, head := range []byte{0xa0, 0xa1} {
			value := seq(el(head, often(count, dns)...))
			if count == 0 || count > 64 {
				wantNoValue(t, 30, value)
				continue
			}
			wantValue(t, 30, value, func(c *api.Cert) {
				if head == 0xa0 {
					c.Permitted = often(count, a)
				} else {
					c.Excluded = often(count, a)
				}
			})
		}
	}
	both := seq(el(0xa0, often(64, dns)...), el(0xa1, often(64, mail)...))
	wantValue(t, 30, both, func(c *api.Cert) { c.Permitted, c.Excluded = often(64, a), often(64, b) })
}

func TestBoundsThatAreNone(t *testing.T) {
	dns := seq(hx("82 01 61"))
	zero, one := el(0xa0, dns), el(0xa1, dns)
	for _, value := range [][]byte{seq(one, zero), seq(zero, zero), seq(one, one), seq(zero, one, one), seq(zero, one, void), seq(void), seq(zero, void), seq(el(0x80, dns)), seq(el(0x81, dns)), seq(el(0xa2, dns)), seq(dns), seq(hx("82 01 61")), seq(zero, []byte{0xa1}),
		seq(hx("a0 00")), seq(hx("a1 00")), seq(zero, hx("a1 00")), seq(hx("a0 00"), one), seq(el(0x30, dns), one), seq(el(0xe0, dns)), seq(el(0x60, dns))} {
		wantNoValue(t, 30, value)
	}
	for _, in := range [][]byte{hx("82 01 61"), seq(), seq(hx("82 01 61"), hx("82 01 61")), seq(hx("82 01 61"), hx("80 01 00")), seq(hx("82 01 61"), hx("81 01 05")), seq(hx("82 01 61"), void), seq(hx("82 01 61"), []byte{0}), el(0x31, hx("82 01 61")), el(0xb0, hx("82 01 61")), el(0x10, hx("82 01 61")), void,
		seq(hx("82 01 80")), seq(hx("87 04 01 02 03 04")), seq(el(0x87, often(16, byte(1)))), seq(hx("87 00")), seq(hx("a2 00")), seq(hx("89 00")), seq(hx("80 00")), seq(hx("84 02 30 00")), seq(void), seq(seq(hx("82 01 61")))} {
		for _, head := range []byte{0xa0, 0xa1} {
			wantNoValue(t, 30, seq(el(head, in)))
			wantNoValue(t, 30, seq(el(head, dns, in)))
			wantNoValue(t, 30, seq(el(head, in, dns)))
		}
		wantNoValue(t, 30, seq(zero, el(0xa1, in)))
		wantNoValue(t, 30, seq(el(0xa0, in), one))
	}
}

func TestPolicies(t *testing.T) {
	p := seq(hx("06 02 2a 03"))
	wantValue(t, 32, seq(p), func(c *api.Cert) { c.Policies = []string{"1.2.3"} })
	wantValue(t, 32, seq(p, seq(hx("06 04 55 1d 20 00"), seq()), p), func(c *api.Cert) { c.Policies = []string{"1.2.3", api.AnyPolicy, "1.2.3"} })
	wantCounts(t, 32, p, func(c *api.Cert, n int) { c.Policies = often(n, "1.2.3") })
	for _, x := range noOids() {
		wantNoValue(t, 32, seq(seq(x)))
		wantNoValue(t, 32, seq(seq(x, seq())))
		wantNoValue(t, 32, seq(p, seq(x)))
	}
	o := hx("06 02 2a 03")
	for _, x := range [][]byte{o, seq(), seq(seq(), o), seq(o, o), seq(o, void), seq(o, el(0x31)), seq(o, el(0x10)), seq(o, el(0xb0)), seq(o, seq(), seq()), seq(o, seq(), void), seq(o, seq(), []byte{1}), el(0x31, o), el(0x10, o), el(0xb0, o), void} {
		wantNoValue(t, 32, seq(x))
		wantNoValue(t, 32, seq(p, x))
		wantNoValue(t, 32, seq(x, p))
	}
}

func TestRequire(t *testing.T) {
	wantValue(t, 36, seq(), nothing)
	for _, n := range []int{0, 1, 127, 128, 999, 1000} {
		zero, one := el(0x80, small(n)[2:]), el(0x81, small(n)[2:])
		wantValue(t, 36, seq(zero), func(c *api.Cert) { c.Require = n })
		wantValue(t, 36, seq(one), nothing)
		wantValue(t, 36, seq(zero, one), func(c *api.Cert) { c.Require = n })
		wantValue(t, 36, seq(zero, hx("81 01 07")), func(c *api.Cert) { c.Require = n })
		wantValue(t, 36, seq(hx("80 01 07"), one), func(c *api.Cert) { c.Require = 7 })
		wantNoValue(t, 36, seq(one, zero))
		wantNoValue(t, 36, seq(zero, zero))
		wantNoValue(t, 36, seq(one, one))
		wantNoValue(t, 36, seq(zero, one, one))
		wantNoValue(t, 36, seq(zero, one, void))
	}
	for _, x := range noCounts() {
		wantNoValue(t, 36, seq(el(0x80, x)))
		wantNoValue(t, 36, seq(el(0x81, x)))
		wantNoValue(t, 36, seq(el(0x80, x), hx("81 01 00")))
		wantNoValue(t, 36, seq(hx("80 01 00"), el(0x81, x)))
	}
	for _, digits := range []string{"a0 01 05", "a0 03 02 01 05", "a1 03 02 01 05", "82 01 05", "02 01 05", "01 01 00", "c0 01 05", "40 01 05", "05 00"} {
		wantNoValue(t, 36, seq(hx(digits)))
		wantNoValue(t, 36, seq(hx("80 01 05"), hx(digits)))
	}
}

func TestInhibit(t *testing.T) {
	for _, n := range []int{0, 1, 127, 128, 255, 256, 999, 1000} {
		wantValue(t, 54, small(n), func(c *api.Cert) { c.Inhibit = n })
	}
	for _, x := range noCounts() {
		wantNoValue(t, 54, el(0x02, x))
	}
}

func TestSubjectKeys(t *testing.T) {
	for _, data := range [][]byte{nil, {0}, {1, 2, 3}, often(20, byte(0xab)), often(500, byte(1)), hx("30 00")} {
		wantValue(t, 14, el(0x04, data), func(c *api.Cert) { c.Ski = data })
	}
}

// Of the issuer's key the first [0]- counts; what stands beside it does not.
func TestIssuerKeys(t *testing.T) {
	k := hx("80 02 07 08")
	is := func(c *api.Cert) { c.Aki = []byte{7, 8} }
	wantValue(t, 35, seq(), nothing)
	wantValue(t, 35, seq(k), is)
	wantValue(t, 35, seq(hx("80 00")), nothing)
	wantValue(t, 35, seq(hx("80 00"), k), nothing) // the first one, though nothing is in it
	wantValue(t, 35, seq(k, hx("80 01 09")), is)
	for _, x := range [][]byte{void, small(5), hx("a0 02 07 09"), hx("a0 00"), hx("81 01 05"), hx("82 01 05"), hx("a1 03 82 01 61"), hx("c0 01 01"), hx("40 01 01"), hx("04 01 01"), hx("30 01 05"), hx("9f 81 00 01 05")} {
		wantValue(t, 35, seq(x), nothing)
		wantValue(t, 35, seq(x, k), is)
		wantValue(t, 35, seq(k, x), is)
		wantValue(t, 35, seq(x, x, k, x, hx("80 00")), is)
		wantValue(t, 35, seq(seq(k), x), nothing)
	}
	for _, n := range []int{63, 64, 65, 66, 1000} {
		wantValue(t, 35, seq(often(n, void)...), nothing)
		wantValue(t, 35, seq(slices.Concat(often(n, void)...), k), is)
	}
	wantNoValue(t, 35, seq(k, []byte{0}))
	wantNoValue(t, 35, seq(k, []byte{0, 0}))
	wantNoValue(t, 35, seq(k, []byte{0x80, 1}))
	wantNoValue(t, 35, seq([]byte{0x80, 0x81, 1, 5}))
}

// Rows that are longer than Split takes are none.
func TestIssuerKeyRows(t *testing.T) {
	wantExts(t, "as many as Split takes", func(c *api.Cert) { c.Aki = []byte{7} }, ext(35, seq(slices.Concat(often(api.MaxElems-1, void)...), hx("80 01 07"))))
	wantNoExts(t, "one more", api.ErrForm, ext(35, seq(slices.Concat(often(api.MaxElems, void)...), hx("80 01 07"))))
}

// Unknown: a critical extension that is none of the ten, whatever its Octets
// have.
func TestUnknown(t *testing.T) {
	unknown := func(c *api.Cert) { c.Unknown = true }
	wantExts(t, "not critical", nothing, other(1))
	wantExts(t, "not critical, as it says", nothing, other(1, no))
	wantExts(t, "critical", unknown, other(1, yes))
	wantExts(t, "one of two", unknown, other(1), other(2, yes))
	wantExts(t, "one of two", unknown, other(1, yes), other(2))
	wantExts(t, "behind one that is known", func(c *api.Cert) { c.Unknown, c.Ca = true, true }, must(19, seq(yes)), other(2, yes))
	for n := range 128 {
		if _, ok := knownExts()[byte(n)]; ok {
			continue
		}
		for _, data := range [][]byte{nil, {0}, void, {0x30}, {0xff, 0xff}} {
			wantExts(t, "not critical", nothing, ext(byte(n), data))
			wantExts(t, "critical", unknown, must(byte(n), data))
		}
	}
	for _, digits := range []string{"06 04 55 1d 13 00", "06 04 55 1d 0f 01", "06 02 55 1d", "06 04 55 1d 81 13", "06 01 13", "06 03 54 1d 13", "06 03 55 1c 13", "06 03 2a 1d 13"} {
		wantExts(t, "nearly known", unknown, seq(hx(digits), yes, hx("04 00")))
	}
}

// Unknown: a name in bounds whose kind is none of the four, though the
// extension is not critical.
func TestUnknownBounds(t *testing.T) {
	dns := seq(hx("82 01 61"))
	a := api.Gen{Kind: api.GenDns, Text: "a"}
	for _, x := range []struct {
		digits string
		kind   int
	}{{"a0 00", 0}, {"a3 00", 3}, {"a5 00", 5}, {"86 00", 6}, {"88 00", 8}, {"a0 02 05 00", 0}, {"88 01 2a", 8}} {
		g := api.Gen{Kind: x.kind}
		base := seq(hx(x.digits))
		wantValue(t, 30, seq(el(0xa0, base)), func(c *api.Cert) { c.Permitted, c.Unknown = []api.Gen{g}, true })
		wantValue(t, 30, seq(el(0xa1, base)), func(c *api.Cert) { c.Excluded, c.Unknown = []api.Gen{g}, true })
		wantValue(t, 30, seq(el(0xa0, dns, base, dns)), func(c *api.Cert) { c.Permitted, c.Unknown = []api.Gen{a, g, a}, true })
		wantValue(t, 30, seq(el(0xa0, dns), el(0xa1, base, dns)), func(c *api.Cert) {
			c.Permitted, c.Excluded, c.Unknown = []api.Gen{a}, []api.Gen{g, a}, true
		})
		wantExts(t, "among the names", func(c *api.Cert) { c.Names = []api.Gen{g} }, ext(17, seq(hx(x.digits))))
	}
}

// How an extension is laid.
func TestExtensionForms(t *testing.T) {
	o, v := hx("06 01 2a"), hx("04 01 ee")
	wantExts(t, "as it may be", nothing, seq(o, v))
	wantExts(t, "nothing in it", nothing, seq(o, hx("04 00")))
	wantExts(t, "with a Bool", nothing, seq(o, no, v))
	for _, x := range [][]byte{seq(), seq(o), seq(v), seq(o, no), seq(o, yes), seq(yes, v), seq(v, o), seq(o, v, yes), seq(o, yes, yes, v), seq(o, v, v), seq(o, yes, v, v), seq(o, o, v), seq(yes, o, v), seq(o, void, v), seq(o, v, void), seq(o, yes, v, void), seq(o, v, []byte{0}), seq(o, v, []byte{4}),
		seq(o, hx("01 00"), v), seq(o, hx("01 01 01"), v), seq(o, hx("01 01 fe"), v), seq(o, hx("01 02 ff ff"), v), seq(o, hx("21 01 ff"), v), seq(o, hx("81 01 ff"), v), seq(o, hx("02 01 ff"), v), seq(o, hx("0a 01 ff"), v),
		seq(o, hx("24 01 ee")), seq(o, hx("84 01 ee")), seq(o, hx("44 01 ee")), seq(o, hx("05 00")), seq(o, hx("03 01 00")), seq(o, hx("0c 01 ee")), seq(o, hx("24 03 04 01 ee")),
		el(0x31, o, v), el(0x10, o, v), el(0xb0, o, v), el(0x70, o, v), o, v, void, slices.Concat(o, v)} {
		wantNoExts(t, "an extension that is none", api.ErrForm, x)
		wantNoExts(t, "behind another one", api.ErrForm, other(7), x)
		wantNoExts(t, "ahead of another one", api.ErrForm, x, other(7))
	}
	for _, x := range noOids() {
		wantNoExts(t, "no Oid", api.ErrForm, seq(x, v))
		wantNoExts(t, "no Oid", api.ErrForm, seq(x, yes, v))
	}
}

// How the row of extensions is laid.
func TestExtensionRows(t *testing.T) {
	x := other(1)
	wantLaid(t, "one", plain().with(exts, el(0xa3, seq(x))), nil)
	wantLaid(t, "two", plain().with(exts, el(0xa3, seq(x, other(2)))), nil)
	for _, b := range [][]byte{hx("a3 00"), hx("a3 02 30 00"), el(0xa3, x), el(0xa3, seq(x), seq(x)), el(0xa3, seq(x), void), el(0xa3, seq(x), seq()), el(0xa3, seq(x), []byte{0}), el(0xa3, el(0x31, x)), el(0xa3, el(0x10, x)), el(0xa3, el(0xb0, x)), el(0xa3, seq(x, []byte{0x30})), el(0xa3, seq(seq(x))), el(0xa3, void),
		el(0x83, seq(x)), el(0xa4, seq(x)), el(0xe3, seq(x)), el(0x63, seq(x)), el(0x23, seq(x)), seq(x), slices.Concat(el(0xa3, seq(x)), el(0xa3, seq(x)))} {
		wantNoForm(t, "no row of extensions", plain().with(exts, b))
		wantNoForm(t, "no row of extensions, and no version", plain().with(version).with(exts, b))
	}
}

// All of the ten in one certificate, in their order and in another one.
func TestAllExtensions(t *testing.T) {
	var l [][]byte
	for _, n := range []byte{14, 15, 17, 19, 30, 32, 35, 36, 37, 54} {
		l = append(l, must(n, knownExts()[n]))
	}
	all := func(c *api.Cert) {
		c.Ski, c.Usage, c.Names, c.Ca, c.Below = []byte{1, 2}, 5, []api.Gen{{Kind: api.GenDns, Text: "a"}}, true, 3
		c.Permitted, c.Aki, c.Require, c.Eku, c.EkuMust, c.Inhibit = []api.Gen{{Kind: api.GenDns, Text: "b"}}, []byte{9}, 4, []string{"1.2"}, true, 6
		c.Policies = []string{"1.2"}
	}
	for range l {
		wantExts(t, "all of them", all, l...)
		l = append(l[1:], l[0])
	}
	slices.Reverse(l)
	wantExts(t, "the other way round", all, l...)
}
