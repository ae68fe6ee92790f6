package crl_test

import (
	"slices"
	"testing"

	"chirograph/api"
)

// P13.1 and P13.2: the fields of a list.

func TestPlain(t *testing.T) {
	wantLaid(t, "without entries and extensions", plain(), nothing)
	wantNoParse(t, "the example", hx("30 00"), api.ErrForm)
	wantNoParse(t, "nothing", nil, api.ErrForm)
}

// complete has all fields that there may be.
func complete() laid {
	return plain().listing(entry([]byte{9}, ext(21, reason(4)))).extended(ext(35, seq(hx("80 01 77"))))
}

func asComplete(c *api.Crl) {
	c.Gone = []api.Gone{{Serial: []byte{9}, Reason: 4}}
	c.Aki = []byte{0x77}
}

// Which fields may lack: the first and the last three; no other one.
func TestFieldsThatLack(t *testing.T) {
	wantLaid(t, "all there are", complete(), asComplete)
	wantLaid(t, "without a second Time", complete().with(next), func(c *api.Crl) {
		asComplete(c)
		c.Next, c.Open = 0, true
	})
	wantLaid(t, "without entries", complete().with(entries), func(c *api.Crl) { c.Aki = []byte{0x77} })
	wantLaid(t, "without extensions of its own", complete().with(exts), gone(api.Gone{Serial: []byte{9}, Reason: 4}))
	bare := plain().with(version).with(next)
	wantLaid(t, "without all that may lack", bare, func(c *api.Crl) { c.Next, c.Open = 0, true })
	wantLaid(t, "an entry behind one Time", bare.listing(entry([]byte{1})), func(c *api.Crl) { c.Next, c.Open, c.Gone = 0, true, []api.Gone{{Serial: []byte{1}}} })
	for _, c := range []laid{complete(), plain(), bare} {
		for _, field := range []int{way, issuer} {
			wantNoForm(t, "one field less", c.with(field))
		}
		wantNoForm(t, "no Time", c.with(this).with(next))
		d := c
		d.again = nil
		wantNoForm(t, "no way behind what is signed", d)
		wantNoForm(t, "no signature", c.signature(nil))
	}
	wantNoParse(t, "what is signed alone", seq(complete().tbs()), api.ErrForm)
	wantNoParse(t, "all but what is signed", seq(complete().again, complete().sig), api.ErrForm)
}

func TestFieldsThatAreTwice(t *testing.T) {
	c := complete()
	for field := range fields {
		if field != this {
			wantNoForm(t, "a field twice", c.with(field, c.in[field], c.in[field]))
		}
		for _, more := range [][]byte{void, hx("02 01 05"), hx("80 00"), hx("a0 00"), hx("83 00"), hx("a1 00"), hx("a3 00"), hx("03 01 00"), hx("31 00")} {
			wantNoForm(t, "one behind a field", c.with(field, c.in[field], more))
			wantNoForm(t, "one ahead of a field", c.with(field, more, c.in[field]))
		}
	}
	wantNoForm(t, "three Times", c.with(this, hx(from), hx(from)))
	wantNoForm(t, "a Seq behind the entries", c.with(entries, c.in[entries], seq()))
	wantNoForm(t, "a Seq behind the extensions", c.with(exts, c.in[exts], seq()))
}

// Fields stand in their order.
func TestFieldOrder(t *testing.T) {
	for i := range fields {
		for j := range i {
			c := complete()
			c.in[i], c.in[j] = c.in[j], c.in[i]
			if i == next && j == this {
				wantLaid(t, "Times the other way round", c, func(c *api.Crl) {
					asComplete(c)
					c.This, c.Next = c.Next, c.This
				})
				continue
			}
			wantNoForm(t, "two fields the other way round", c)
		}
	}
	c := complete()
	wantNoParse(t, "the way behind the signature", seq(c.tbs(), c.sig, c.again), api.ErrForm)
	wantNoParse(t, "the way first", seq(c.again, c.tbs(), c.sig), api.ErrForm)
	wantNoParse(t, "the signature first", seq(c.sig, c.tbs(), c.again), api.ErrForm)
}

// A field with another head, all else being as it was.
func TestFieldHeads(t *testing.T) {
	whole := complete()
	for head := range 256 {
		if head&0x1f == 0x1f {
			continue
		}
		for field := range fields {
			c := slices.Clone(whole.in[field])
			if c[0] != byte(head) {
				c[0] = byte(head)
				wantNoForm(t, "a field with another head", whole.with(field, c))
			}
		}
		c, d := whole, whole
		c.again, d.sig = slices.Clone(c.again), slices.Clone(d.sig)
		c.again[0], d.sig[0] = byte(head), byte(head)
		all := whole.bytes()
		all[0] = byte(head)
		if head != 0x30 {
			wantNoForm(t, "the way behind, with another head", c)
			wantNoParse(t, "all, with another head", all, api.ErrForm)
			wantNoParse(t, "what is signed, with another head", seq(el(byte(head), slices.Concat(c.in[:]...)), whole.again, whole.sig), api.ErrForm)
		}
		if head != 0x03 {
			wantNoForm(t, "the signature, with another head", d)
		}
	}
	wantNoParse(t, "a tag laid too long", slices.Concat(hx("3f 10"), whole.bytes()[1:]), api.ErrForm)
}

// b is just one element, and all its bytes.
func TestWhole(t *testing.T) {
	b := complete().bytes()
	for i := range b {
		wantNoParse(t, "cut", b[:i], api.ErrForm)
		if i > 0 {
			wantNoParse(t, "without a beginning", b[i:], api.ErrForm)
		}
	}
	for _, more := range [][]byte{{0}, {0, 0}, void, b, hx("30 00")} {
		wantNoParse(t, "more behind", slices.Concat(b, more), api.ErrForm)
		wantNoParse(t, "more ahead", slices.Concat(more, b), api.ErrForm)
		wantNoParse(t, "more within", seq(complete().tbs(), complete().again, complete().sig, more), api.ErrForm)
	}
	wantNoParse(t, "within another one", seq(b), api.ErrForm)
	open := slices.Concat(hx("30 80"), complete().tbs(), complete().again, complete().sig, hx("00 00"))
	wantNoParse(t, "open", open, api.ErrForm)
	tbs := complete().tbs()
	if tbs[1] >= 0x80 {
		t.Fatal("another length")
	}
	wide := seq(slices.Concat([]byte{0x30, 0x81}, tbs[1:]), complete().again, complete().sig)
	wantNoParse(t, "a length laid too long", wide, api.ErrForm)
}

// If there is an Int, it is 1.
func TestVersions(t *testing.T) {
	wantLaid(t, "1", plain().with(version, small(1)), nothing)
	wantLaid(t, "none", plain().with(version), nothing)
	for _, n := range []int{0, 2, 3, 127, 128, 256, 257, -1, -2, -128, -255, 1 << 32, 1<<32 + 1, 1<<63 - 1, -1 << 63} {
		wantNoParse(t, "another version", plain().with(version, small(n)).bytes(), api.ErrVersion)
		wantNoParse(t, "another version, with all else", complete().with(version, small(n)).bytes(), api.ErrVersion)
	}
	for _, digits := range []string{"01 00 00 00 00 00 00 00 00", "01 00 00 00 00 00 00 00 01", "00 ff ff ff ff ff ff ff ff", "80 00 00 00 00 00 00 00 01", "ff 00 00 00 00 00 00 00 01"} {
		wantNoParse(t, "a great version", plain().with(version, el(0x02, hx(digits))).bytes(), api.ErrVersion)
	}
	wantNoParse(t, "a version of very many bytes", plain().with(version, el(0x02, often(3000, byte(1)))).bytes(), api.ErrVersion)
	for _, digits := range []string{"02 00", "02 02 00 01", "02 02 ff ff", "02 09 00 00 00 00 00 00 00 00 01", "0a 01 01", "22 01 01", "82 01 01", "30 03 02 01 01", "a0 03 02 01 01", "80 01 01", "02 01 01 02 01 01"} {
		wantNoForm(t, "no version", plain().with(version, hx(digits)))
	}
}

// Extensions, the list's or an entry's, ask for a version.
func TestExtensionsAskForVersion(t *testing.T) {
	bare := plain().with(version)
	entries := bare.listing(entry([]byte{1}), entry([]byte{2}))
	wantLaid(t, "entries, no extensions", entries, gone(api.Gone{Serial: []byte{1}}, api.Gone{Serial: []byte{2}}))
	wantNoParse(t, "one that nobody knows", bare.extended(other(1)).bytes(), api.ErrVersion)
	wantNoParse(t, "one that is known", bare.extended(ext(20, small(1))).bytes(), api.ErrVersion)
	wantNoParse(t, "entries, and one of the list", entries.extended(other(1)).bytes(), api.ErrVersion)
	for _, x := range [][]byte{other(1), ext(21, reason(0)), ext(21, reason(1)), must(20, small(1))} {
		wantNoParse(t, "of the first entry", bare.listing(entry([]byte{1}, x), entry([]byte{2})).bytes(), api.ErrVersion)
		wantNoParse(t, "of the last entry", bare.listing(entry([]byte{1}), entry([]byte{2}, x)).bytes(), api.ErrVersion)
		wantNoParse(t, "of an entry and of the list", bare.listing(entry([]byte{1}, x)).extended(x).bytes(), api.ErrVersion)
	}
}

// The way to sign stands there twice, alike.
func TestSignWays(t *testing.T) {
	ec := hx(hexEcSha256)
	wantLaid(t, "another way", plain().signing(ec), func(c *api.Crl) { c.Way = api.Alg{Kind: api.AlgEcdsa, Digest: api.Sha256} })
	wantLaid(t, "of no digest", plain().signing(hx(hexRsa)), func(c *api.Crl) { c.Way = api.Alg{Kind: api.AlgRsa} })
	pss := seq(hx("06 09 2a 86 48 86 f7 0d 01 01 0a 30 05 a2 03 02 01 09"))
	wantLaid(t, "with a salt", plain().signing(pss), func(c *api.Crl) {
		c.Way = api.Alg{Kind: api.AlgPss, Digest: api.Sha1, Mask: api.Sha1, Salt: 9}
	})
	wantNoForm(t, "another one in what is signed", plain().with(way, ec))
	c := plain()
	c.again = ec
	wantNoForm(t, "another one behind", c)
	c.again = hx("30 0b 06 09 2a 86 48 86 f7 0d 01 01 05") // the same way, laid otherwise
	wantNoForm(t, "one without a rest behind", c)
	wantLaid(t, "both without a rest", plain().signing(c.again), nothing)
	wantNoForm(t, "one without a rest in what is signed", plain().with(way, c.again))
	c.again = hx("30 00")
	wantNoForm(t, "nothing in it", c)
}

// Ways that are none are told so, if they are Seqs at all, and alike.
func TestSignWaysThatAreNone(t *testing.T) {
	for _, digits := range []string{"30 00", "30 02 05 00", "30 03 06 01 2a", "30 03 30 01 05", "30 0c 06 08 2a 86 48 ce 3d 04 03 02 05 00", "30 0b 06 09 2a 86 48 86 f7 0d 01 01 0a", hexGermany} {
		wantNoParse(t, "no way", plain().signing(hx(digits)).bytes(), api.ErrAlg)
	}
	for _, digits := range []string{"31 0d 06 09 2a 86 48 86 f7 0d 01 01 05 05 00", "06 09 2a 86 48 86 f7 0d 01 01 05", "05 00", "10 00", "b0 00", "70 00", "04 00"} {
		wantNoForm(t, "no Seq", plain().signing(hx(digits)))
	}
	for _, in := range noRows() {
		wantNoForm(t, "a Seq without a row", plain().signing(seq(in)))
		wantNoForm(t, "a Seq without a row, in what is signed", plain().with(way, seq(in)))
		wantNoForm(t, "a piece behind a way", plain().signing(seq(hx(hexRsaSha1)[2:], in)))
		c := plain()
		c.again = seq(in)
		wantNoForm(t, "a Seq without a row, behind", c)
	}
}

// noRows are Data of which Split tells an error, each of its kinds.
func noRows() [][]byte {
	return [][]byte{{5}, {0x30}, {0}, {0, 0}, hx("30 80"), hx("30 80 00 00"), hx("02 81 01 05"), hx("02 82 00 01 05"), hx("04 02 01"), hx("1f 05 00"), hx("05 00 05"), hx("05 00 00 00"), hx("00 00 05 00"), hx("05 ff"), slices.Repeat(void, api.MaxElems+1)}
}

func TestIssuers(t *testing.T) {
	two := seq(hx(hexRoot)[2:], hx(hexGermany)[2:])
	wantLaid(t, "two sets", plain().with(issuer, two), func(c *api.Crl) {
		c.Issuer = append(nameOf("2.5.4.10", "Root"), nameOf("2.5.4.6", "DE")...)
	})
	wantLaid(t, "no sets", plain().with(issuer, seq()), func(c *api.Crl) { c.Issuer = nil })
	most := seq(often(64, hx(hexGermany)[2:])...)
	wantLaid(t, "as many sets as may be", plain().with(issuer, most), func(c *api.Crl) { c.Issuer = often(64, nameOf("2.5.4.6", "DE")[0]) })
	for _, digits := range []string{"30 02 31 00", "31 00", "30 02 30 00", "30 02 05 00", "30 01 05", "30 0b 31 09 30 07 06 03 55 04 06 13 00 00", "30 0d 31 0b 30 09 26 03 55 04 06 13 02 44 45", "30 0d 31 0b 30 09 06 03 55 04 86 13 02 44 45", "30 0d 31 0b 30 09 06 03 55 04 06 33 02 44 45", hexRsaSha1} {
		wantNoForm(t, "no name", plain().with(issuer, hx(digits)))
	}
	wantNoForm(t, "too many sets", plain().with(issuer, seq(often(65, hx(hexGermany)[2:])...)))
}

// noTimes are elements with a Time's head that are none.
func noTimes() [][]byte {
	return [][]byte{utc("20200101000000Z"), general("200101000000Z"), utc("200101000000"), utc("2001010000Z"), utc("200101000000+0000"), utc("201301000000Z"), utc("210229000000Z"), utc("200101240000Z"), utc("200101006000Z"), utc("200101000060Z"), utc(""), general("20200101000000.5Z"), general("20200101000000.Z"), general("20200101000000"), general("")}
}

// noTimeHeads are elements that nobody takes for a Time.
func noTimeHeads() [][]byte {
	return [][]byte{el(0x37, []byte("200101000000Z")), el(0x97, []byte("200101000000Z")), el(0x57, []byte("200101000000Z")), el(0x38, []byte("20200101000000Z")), el(0x98, []byte("20200101000000Z")), el(0x16, []byte("200101000000Z")), el(0x13, []byte("200101000000Z")), void, small(5)}
}

func TestTimes(t *testing.T) {
	for _, x := range []struct {
		b   []byte
		sec int
	}{
		{utc("700101000000Z"), 0}, {utc("491231235959Z"), 2524607999}, {utc("500101000000Z"), -631152000}, {general("20240229120000Z"), 1709208000}, {general("00000101000000Z"), -62167219200}, {general("99991231235959Z"), 253402300799},
	} {
		wantLaid(t, "the first one", plain().with(this, x.b), func(c *api.Crl) { c.This = x.sec })
		wantLaid(t, "the second one", plain().with(next, x.b), func(c *api.Crl) { c.Next = x.sec })
		wantLaid(t, "both", plain().with(this, x.b).with(next, x.b), func(c *api.Crl) { c.This, c.Next = x.sec, x.sec })
		wantLaid(t, "one alone", plain().with(this, x.b).with(next), func(c *api.Crl) { c.This, c.Next, c.Open = x.sec, 0, true })
		wantLaid(t, "an entry's", plain().listing(seq(small(1), x.b)), gone(api.Gone{Serial: []byte{1}, At: x.sec}))
	}
	for _, x := range slices.Concat(noTimes(), noTimeHeads()) {
		wantNoForm(t, "no first one", plain().with(this, x))
		wantNoForm(t, "no second one", plain().with(next, x))
		wantNoForm(t, "no second one, an entry behind", complete().with(next, x))
		wantNoForm(t, "no one", plain().with(this, x).with(next))
		wantNoForm(t, "one more", plain().with(next, hx(until), x))
	}
	wantLaid(t, "Next is the beginning of 1970, not open", plain().with(next, hx(epoch)), func(c *api.Crl) { c.Next = 0 })
}

func TestSignatures(t *testing.T) {
	for _, data := range [][]byte{nil, {0}, {0xff}, {1, 2, 3}, often(1000, byte(0xa5))} {
		wantLaid(t, "a signature", plain().signature(el(0x03, []byte{0}, data)), func(c *api.Crl) { c.Sig = data })
	}
	for _, digits := range []string{"03 00", "03 01 01", "03 01 08", "03 02 01 00", "03 02 01 fe", "03 02 07 80", "03 02 01 01", "03 02 08 00", "03 03 04 aa b0", "23 01 00", "23 03 03 01 00", "04 01 00", "83 01 00", "05 00"} {
		wantNoForm(t, "no signature", plain().signature(hx(digits)))
	}
}
