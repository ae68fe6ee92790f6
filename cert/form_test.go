package cert_test

import (
	"slices"
	"testing"

	"chirograph/api"
)

// P12.1 and P12.3: the fields of a certificate.

func TestPlain(t *testing.T) {
	wantLaid(t, "without extensions", plain(), nil)
	wantNoParse(t, "the example", hx("30 00"), api.ErrForm)
	wantNoParse(t, "nothing", nil, api.ErrForm)
}

func wantNoForm(t *testing.T, what string, c laid) {
	t.Helper()
	wantNoParse(t, what, c.bytes(), api.ErrForm)
}

// complete has all fields that there may be.
func complete() laid {
	return plain().with(issuerBits, hx("81 02 00 01")).with(subjectBits, hx("82 01 07")).extended(ext(14, hx("04 01 77")))
}

func wantComplete(t *testing.T, what string, c laid) {
	t.Helper()
	wantLaid(t, what, c, func(c *api.Cert) { c.Ski = []byte{0x77} })
}

// Which fields may lack: the first and the last three; no other one.
func TestFieldsThatLack(t *testing.T) {
	wantComplete(t, "all there are", complete())
	wantComplete(t, "without [1]-", complete().with(issuerBits))
	wantComplete(t, "without [2]-", complete().with(subjectBits))
	wantComplete(t, "without both", complete().with(issuerBits).with(subjectBits))
	wantLaid(t, "without [3]", complete().with(exts), nil)
	wantLaid(t, "without [0] and [3]", complete().with(exts).with(version), nil)
	for field := serial; field <= key; field++ {
		wantNoForm(t, "one field less", complete().with(field))
		wantNoForm(t, "one field less", plain().with(field))
		wantNoForm(t, "one field less, and none of the first", plain().with(version).with(field))
	}
	c := complete()
	c.again = nil
	wantNoForm(t, "no way behind what is signed", c)
	c = complete()
	c.sig = nil
	wantNoForm(t, "no signature", c)
	wantNoParse(t, "what is signed alone", seq(complete().tbs()), api.ErrForm)
	wantNoParse(t, "all but what is signed", seq(complete().again, complete().sig), api.ErrForm)
}

func TestFieldsThatAreTwice(t *testing.T) {
	c := complete()
	for field := range fields {
		wantNoForm(t, "a field twice", c.with(field, c.in[field], c.in[field]))
		for _, more := range [][]byte{void, hx("30 00"), hx("02 01 05"), hx("80 00"), hx("a0 00"), hx("83 00"), hx("84 00"), hx("a4 00"), hx("03 01 00")} {
			wantNoForm(t, "one behind a field", c.with(field, c.in[field], more))
			wantNoForm(t, "one ahead of a field", c.with(field, more, c.in[field]))
		}
	}
}

// Fields stand in their order.
func TestFieldOrder(t *testing.T) {
	for i := range fields {
		for j := range i {
			c := complete()
			c.in[i], c.in[j] = c.in[j], c.in[i]
			if i == subject && j == issuer {
				wantLaid(t, "names the other way round", c, func(c *api.Cert) { c.Issuer, c.Subject, c.Ski = c.Subject, c.Issuer, []byte{0x77} })
				continue
			}
			wantNoForm(t, "two fields the other way round", c)
		}
	}
	c := complete()
	wantNoParse(t, "the way behind the signature", seq(c.tbs(), c.sig, c.again), api.ErrForm)
	wantNoParse(t, "the way first", seq(c.again, c.tbs(), c.sig), api.ErrForm)
	wantNoParse(t, "the signature first", seq(c.sig, c.tbs(), c.again), api.ErrForm)
}

// A field with another head, all else being as it was.
func TestFieldHeads(t *testing.T) {
	whole := complete()
	for field := range fields {
		right := whole.in[field][0]
		for head := range 256 {
			if head == int(right) || head&0x1f == 0x1f {
				continue
			}
			c := slices.Clone(whole.in[field])
			c[0] = byte(head)
			wantNoForm(t, "a field with another head", whole.with(field, c))
		}
	}
	for head := range 256 {
		if head&0x1f == 0x1f {
			continue
		}
		c, d := complete(), complete()
		c.again = slices.Clone(c.again)
		c.again[0] = byte(head)
		d.sig = slices.Clone(d.sig)
		d.sig[0] = byte(head)
		whole := slices.Clone(complete().bytes())
		whole[0] = byte(head)
		first := seq(el(byte(head), slices.Concat(c.in[:]...)), complete().again, complete().sig)
		if head != 0x30 {
			wantNoForm(t, "the way behind, with another head", c)
			wantNoParse(t, "all, with another head", whole, api.ErrForm)
			wantNoParse(t, "what is signed, with another head", first, api.ErrForm)
		} else {
			wantComplete(t, "the same head", c)
			wantComplete(t, "the same head", complete())
		}
		if head != 0x03 {
			wantNoForm(t, "the signature, with another head", d)
		}
	}
	// long forms of tags that would fit into one byte are none
	wantNoParse(t, "a tag laid too long", slices.Concat(hx("3f 10"), complete().bytes()[1:]), api.ErrForm)
}

// b is just one element, and all its bytes.
func TestWhole(t *testing.T) {
	b := complete().bytes()
	for i := range b {
		wantNoParse(t, "cut", b[:i], api.ErrForm)
		if i > 0 {
			wantNoParse(t, "without a beginning", b[i:], api.ErrForm)
		}
	}
	for _, more := range [][]byte{{0}, {0, 0}, void, b, hx("30 00")} {
		wantNoParse(t, "more behind", slices.Concat(b, more), api.ErrForm)
		wantNoParse(t, "more ahead", slices.Concat(more, b), api.ErrForm)
		wantNoParse(t, "more within", seq(complete().tbs(), complete().again, complete().sig, more), api.ErrForm)
	}
	wantNoParse(t, "within another one", seq(b), api.ErrForm)
	open := slices.Concat(hx("30 80"), complete().tbs(), complete().again, complete().sig, hx("00 00"))
	wantNoParse(t, "open", open, api.ErrForm)
	tbs := complete().tbs()
	if tbs[1] != 0x81 {
		t.Fatal("another length")
	}
	wide := seq(slices.Concat([]byte{0x30, 0x82, 0}, tbs[2:]), complete().again, complete().sig)
	wantNoParse(t, "a length laid too long", wide, api.ErrForm)
}

func TestVersions(t *testing.T) {
	for _, n := range []int{0, 1, 2} {
		wantLaid(t, "a version", plain().with(version, el(0xa0, small(n))), nil)
	}
	for _, n := range []int{3, 4, 127, 128, 256, 258, -1, -2, -128, -256, 1 << 32, 1<<32 + 2, 1<<63 - 1, -1 << 63} {
		wantNoParse(t, "another version", plain().with(version, el(0xa0, small(n))).bytes(), api.ErrVersion)
	}
	for _, digits := range []string{"01 00 00 00 00 00 00 00 00", "01 00 00 00 00 00 00 00 02", "00 ff ff ff ff ff ff ff ff", "80 00 00 00 00 00 00 00 01", "ff 00 00 00 00 00 00 00 02"} {
		wantNoParse(t, "a great version", plain().with(version, el(0xa0, el(0x02, hx(digits)))).bytes(), api.ErrVersion)
	}
	for _, digits := range []string{"", "02 00", "02 02 00 02", "02 02 ff ff", "02 09 00 00 00 00 00 00 00 00 02", "02 01 02 02 01 02", "02 01 02 05 00", "05 00", "0a 01 02", "22 01 02", "82 01 02", "30 03 02 01 02", "02", "02 02 02", "02 81 01 02"} {
		wantNoForm(t, "no version", plain().with(version, el(0xa0, hx(digits))))
	}
	wantNoForm(t, "a version that stands alone", plain().with(version, small(2)))
	wantNoForm(t, "a version that is not Cons", plain().with(version, hx("80 01 02")))
	wantNoForm(t, "a version in [1]", plain().with(version, hx("a1 03 02 01 02")))
}

// Extensions ask for the version 2; the other two fields that may lack do not.
func TestExtensionsAskForVersion(t *testing.T) {
	wantComplete(t, "version 2", complete())
	wantNoParse(t, "version 1", complete().with(version, el(0xa0, small(1))).bytes(), api.ErrVersion)
	wantNoParse(t, "version 0", complete().with(version, el(0xa0, small(0))).bytes(), api.ErrVersion)
	wantNoParse(t, "no version", complete().with(version).bytes(), api.ErrVersion)
	wantLaid(t, "no version, no extensions", complete().with(exts).with(version), nil)
	wantLaid(t, "version 0, no extensions", complete().with(exts).with(version, el(0xa0, small(0))), nil)
	wantLaid(t, "version 1, no extensions", complete().with(exts).with(version, el(0xa0, small(1))), nil)
	wantNoParse(t, "no version, and one that nobody knows", plain().extended(other(1)).with(version).bytes(), api.ErrVersion)
}

// A serial is any Int: its Data are told as they are.
func TestSerials(t *testing.T) {
	for _, data := range [][]byte{{0}, {1}, {0x7f}, {0x80}, {0xff}, {0, 0x80}, {0xff, 0x7f}, often(8, byte(1)), often(9, byte(1)), often(20, byte(0x7f)), often(21, byte(0x81)), often(2049, byte(3)), often(5000, byte(0x80))} {
		wantLaid(t, "a serial", plain().with(serial, el(0x02, data)), func(c *api.Cert) { c.Serial = data })
	}
	for _, data := range [][]byte{{}, {0, 0}, {0, 0x7f}, {0xff, 0xff}, {0xff, 0x80}, append([]byte{0}, often(3000, byte(3))...), append([]byte{0xff}, often(30, byte(0x83))...)} {
		wantNoForm(t, "no serial", plain().with(serial, el(0x02, data)))
	}
}

// The way to sign stands there twice, alike.
func TestWays(t *testing.T) {
	ec := hx(hexEcSha256)
	wantLaid(t, "another way", plain().signing(ec), func(c *api.Cert) { c.Way = api.Alg{Kind: api.AlgEcdsa, Digest: api.Sha256} })
	wantLaid(t, "of no digest", plain().signing(hx(hexRsa)), func(c *api.Cert) { c.Way = api.Alg{Kind: api.AlgRsa} })
	pss := seq(hx("06 09 2a 86 48 86 f7 0d 01 01 0a 30 05 a2 03 02 01 09"))
	wantLaid(t, "with a salt", plain().signing(pss), func(c *api.Cert) {
		c.Way = api.Alg{Kind: api.AlgPss, Digest: api.Sha1, Mask: api.Sha1, Salt: 9}
	})
	wantNoForm(t, "another one in what is signed", plain().with(way, ec))
	c := plain()
	c.again = ec
	wantNoForm(t, "another one behind", c)
	c.again = hx("30 0b 06 09 2a 86 48 86 f7 0d 01 01 05") // the same way, laid otherwise
	wantNoForm(t, "one without a rest behind", c)
	wantLaid(t, "both without a rest", plain().signing(c.again), nil)
	wantNoForm(t, "one without a rest in what is signed", plain().with(way, c.again))
	c.again = hx("30 00")
	wantNoForm(t, "nothing in it", c)
}

// Ways that are none are told so, if they are Seqs at all, and alike.
func TestWaysThatAreNone(t *testing.T) {
	for _, digits := range []string{"30 00", "30 02 05 00", "30 03 06 01 2a", "30 03 30 01 05", "30 0c 06 08 2a 86 48 ce 3d 04 03 02 05 00", "30 0b 06 09 2a 86 48 86 f7 0d 01 01 0a", hexGermany} {
		wantNoParse(t, "no way", plain().signing(hx(digits)).bytes(), api.ErrAlg)
	}
	for _, digits := range []string{"31 0d 06 09 2a 86 48 86 f7 0d 01 01 05 05 00", "06 09 2a 86 48 86 f7 0d 01 01 05", "05 00", "10 00", "b0 00", "70 00", "04 00"} {
		wantNoForm(t, "no Seq", plain().signing(hx(digits)))
	}
}

func TestKeys(t *testing.T) {
	g := "6b17d1f2e12c4247f8bce6e563a440f277037d812deb33a0f4a13945d898c296 4fe342e2fe1a7f9b8ee7eb4a7c0f9e162bce33576b315ececbb6406837bf51f5"
	id := hx("30 13 06 07 2a 86 48 ce 3d 02 01 06 08 2a 86 48 ce 3d 03 01 07")
	point := seq(id, el(0x03, hx("00 04"), hx(g)))
	wantLaid(t, "a point", plain().with(key, point), func(c *api.Cert) {
		c.Key = api.Key{Curve: api.P256, Point: api.Point{
			X: []uint32{0xd898c296, 0xf4a13945, 0x2deb33a0, 0x77037d81, 0x63a440f2, 0xf8bce6e5, 0xe12c4247, 0x6b17d1f2},
			Y: []uint32{0x37bf51f5, 0xcbb64068, 0x6b315ece, 0x2bce3357, 0x7c0f9e16, 0x8ee7eb4a, 0xfe1a7f9b, 0x4fe342e2}}}
	})
	point[len(point)-1]++
	wantNoParse(t, "no point", plain().with(key, point).bytes(), api.ErrKey)
	wantNoParse(t, "no bits", plain().with(key, seq(hx(hexRsa), hx("03 01 00"))).bytes(), api.ErrKey)
	wantNoParse(t, "a small modulus", plain().with(key, seq(hx(hexRsa), el(0x03, []byte{0}, seq(small(15), small(3))))).bytes(), api.ErrKey)
	for _, digits := range []string{"30 00", "30 02 05 00", "30 04 30 00 03 00", hexGermany, hexRsaSha1, hexRsa} {
		wantNoParse(t, "no key", plain().with(key, hx(digits)).bytes(), api.ErrAlg)
	}
	wantNoParse(t, "bits to spare", plain().with(key, seq(hx(hexRsa), hx("03 02 01 00"))).bytes(), api.ErrAlg)
}

func TestNames(t *testing.T) {
	two := seq(hx(hexRoot)[2:], hx(hexGermany)[2:])
	wantLaid(t, "two sets", plain().with(subject, two), func(c *api.Cert) {
		c.Subject = append(nameOf("2.5.4.10", "Root"), nameOf("2.5.4.6", "DE")...)
	})
	wantLaid(t, "no sets", plain().with(subject, seq()).with(issuer, seq()), func(c *api.Cert) { c.Subject, c.Issuer = nil, nil })
	wantLaid(t, "each its own", plain().with(subject, hx(hexRoot)).with(issuer, hx(hexGermany)), func(c *api.Cert) { c.Subject, c.Issuer = c.Issuer, c.Subject })
	most := seq(often(64, hx(hexGermany)[2:])...)
	wantLaid(t, "as many sets as may be", plain().with(issuer, most), func(c *api.Cert) { c.Issuer = often(64, nameOf("2.5.4.6", "DE")[0]) })
	for _, field := range []int{issuer, subject} {
		for _, digits := range []string{"30 02 31 00", "31 00", "30 02 30 00", "30 02 05 00", "30 01 05", "30 0b 31 09 30 07 06 03 55 04 06 13 00 00", "30 0d 31 0b 30 09 26 03 55 04 06 13 02 44 45", "30 0d 31 0b 30 09 06 03 55 04 86 13 02 44 45", "30 0d 31 0b 30 09 06 03 55 04 06 33 02 44 45", hexRsaSha1} {
			wantNoForm(t, "no name", plain().with(field, hx(digits)))
		}
		wantNoForm(t, "too many sets", plain().with(field, seq(often(65, hx(hexGermany)[2:])...)))
	}
}

func utc(s string) []byte     { return el(0x17, []byte(s)) }
func general(s string) []byte { return el(0x18, []byte(s)) }

func TestTimes(t *testing.T) {
	wantLaid(t, "both in four digits", plain().with(times, seq(general("20240229120000Z"), general("99991231235959Z"))), func(c *api.Cert) { c.From, c.Until = 1709208000, 253402300799 })
	wantLaid(t, "one of each", plain().with(times, seq(utc("491231235959Z"), general("20500101000000Z"))), func(c *api.Cert) { c.From, c.Until = 2524607999, 2524608000 })
	wantLaid(t, "one of each", plain().with(times, seq(general("00000101000000Z"), utc("500101000000Z"))), func(c *api.Cert) { c.From, c.Until = -62167219200, -631152000 })
	wantLaid(t, "ends ahead of its beginning", plain().with(times, seq(utc("700101000001Z"), utc("700101000000Z"))), func(c *api.Cert) { c.From, c.Until = 1, 0 })
	right := utc("200101000000Z")
	wrong := [][]byte{utc("20200101000000Z"), general("200101000000Z"), utc("200101000000"), utc("2001010000Z"), utc("200101000000+0000"), utc("201301000000Z"), utc("210229000000Z"), utc("200101240000Z"), utc("200101006000Z"), utc("200101000060Z"), utc(""),
		general("20200101000000.5Z"), general("20200101000000.Z"), general("20200101000000"), el(0x37, []byte("200101000000Z")), el(0x97, []byte("200101000000Z")), el(0x16, []byte("200101000000Z")), void, small(5)}
	for _, x := range wrong {
		wantNoForm(t, "no beginning", plain().with(times, seq(x, right)))
		wantNoForm(t, "no end", plain().with(times, seq(right, x)))
		wantNoForm(t, "one more", plain().with(times, seq(right, right, x)))
	}
	wantNoForm(t, "one time", plain().with(times, seq(right)))
	wantNoForm(t, "no times", plain().with(times, seq()))
	wantNoForm(t, "three times", plain().with(times, seq(right, right, right)))
	wantNoForm(t, "a piece of a time behind", plain().with(times, seq(right, right, []byte{0x17})))
	wantNoForm(t, "no Seq", plain().with(times, right, right))
	wantNoForm(t, "a Set", plain().with(times, el(0x31, right, right)))
}

// [1]- and [2]- have whatever bytes.
func TestUniqueBits(t *testing.T) {
	for _, data := range [][]byte{nil, {0}, {9, 9}, {0xff}, often(300, byte(7))} {
		wantLaid(t, "[1]-", plain().with(issuerBits, el(0x81, data)), nil)
		wantLaid(t, "[2]-", plain().with(subjectBits, el(0x82, data)), nil)
		wantLaid(t, "both", plain().with(issuerBits, el(0x81, data)).with(subjectBits, el(0x82, data)), nil)
		wantNoForm(t, "the other way round", plain().with(issuerBits, el(0x82, data), el(0x81, data)))
		wantNoForm(t, "[1]- twice", plain().with(issuerBits, el(0x81, data), el(0x81, data)))
		wantNoForm(t, "[2]- twice", plain().with(issuerBits, el(0x82, data), el(0x82, data)))
	}
	for _, digits := range []string{"a1 00", "a2 00", "a1 02 03 00", "80 00", "83 00", "84 00", "01 01 00", "02 01 00", "41 00", "c2 00", "9f 81 01 00"} {
		wantNoForm(t, "none of both", plain().with(issuerBits, hx(digits)))
	}
}

func TestSignatures(t *testing.T) {
	for _, data := range [][]byte{nil, {0}, {0xff}, {1, 2, 3}, often(1000, byte(0xa5))} {
		c := plain()
		c.sig = el(0x03, []byte{0}, data)
		wantLaid(t, "a signature", c, func(c *api.Cert) { c.Sig = data })
	}
	for _, digits := range []string{"03 00", "03 01 01", "03 01 08", "03 02 01 00", "03 02 01 fe", "03 02 07 80", "03 02 01 01", "03 02 08 00", "03 03 04 aa b0", "23 01 00", "23 03 03 01 00", "04 01 00", "83 01 00", "05 00"} {
		c := plain()
		c.sig = hx(digits)
		wantNoForm(t, "no signature", c)
	}
}
