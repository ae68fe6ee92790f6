package alg_test

import (
	"math/rand"
	"slices"
	"testing"

	"chirograph/api"
)

// P11.3

func TestSignExamples(t *testing.T) {
	wantSign(t, seq(hx("06 09 2a 86 48 86 f7 0d 01 01 0b 05 00")), api.Alg{Kind: api.AlgRsa, Digest: api.Sha256})
	wantSign(t, seq(hx("06 09 2a 86 48 86 f7 0d 01 01 0a 30 00")), api.Alg{Kind: api.AlgPss, Digest: api.Sha1, Mask: api.Sha1, Salt: 20})
	wantSign(t, seq(hx("06 09 2a 86 48 86 f7 0d 01 01 01 05 00")), api.Alg{Kind: api.AlgRsa})
	wantSign(t, seq(hx("06 09 2a 86 48 86 f7 0d 01 01 05")), api.Alg{Kind: api.AlgRsa, Digest: api.Sha1})
	wantSign(t, seq(hx("06 07 2a 86 48 ce 3d 04 01")), api.Alg{Kind: api.AlgEcdsa, Digest: api.Sha1})
	wantSign(t, seq(hx("06 08 2a 86 48 ce 3d 04 03 03")), api.Alg{Kind: api.AlgEcdsa, Digest: api.Sha384})
	wantNoSign(t, seq(hx("06 07 2a 86 48 ce 3d 04 01 05 00")))
	wantNoSign(t, seq(hx("06 09 2a 86 48 86 f7 0d 01 01 0a")))
	wantNoSign(t, seq(hx("06 09 2a 86 48 86 f7 0d 01 01 0a 05 00")))
	wantNoSign(t, seq())
	wantNoSign(t, api.Tlv{})
}

// All that name a way to sign, of the second kind in each digest, mask and salt.
func TestWays(t *testing.T) {
	known := ways()
	if len(known) != 14+9*9*1002*2 {
		t.Fatalf("%d ways", len(known))
	}
	for s, a := range known {
		wantSign(t, seq([]byte(s)), a)
	}
}

func TestSignHeads(t *testing.T) {
	for _, data := range [][]byte{oid(hexRsa), slices.Concat(oid(hexRsaSha256), void), oid(hexEcdsaSha256), slices.Concat(oid(hexPss), hx("30 00"))} {
		for _, y := range otherHeads(seq(data)) {
			wantNoSign(t, y)
		}
	}
}

// wantSignOf asks what is known.
func wantSignOf(t *testing.T, known map[string]api.Alg, data []byte) {
	t.Helper()
	if a, ok := known[string(data)]; ok {
		wantSign(t, seq(data), a)
	} else {
		wantNoSign(t, seq(data))
	}
}

func TestSignOfOtherOids(t *testing.T) {
	known := ways()
	for _, digits := range allOids {
		for _, rest := range slices.Concat([][]byte{nil, void}, otherRests, moreThanOne) {
			wantSignOf(t, known, slices.Concat(oid(digits), rest))
		}
		for _, head := range []byte{0x26, 0x46, 0x86, 0xc6, 0x0d, 0x04} {
			wantNoSign(t, seq(el(head, hx(digits))))
			wantNoSign(t, seq(el(head, hx(digits)), void))
			wantNoSign(t, seq(el(head, hx(digits)), hx("30 00")))
		}
	}
}

// All that lack little to name a way to sign, against those that name one.
func TestSignModel(t *testing.T) {
	known := ways()
	r := rand.New(rand.NewSource(122))
	for s, a := range known {
		if a.Kind != api.AlgPss {
			for _, b := range near([]byte(s)) {
				wantSignOf(t, known, b)
			}
		}
	}
	fields := [][]option{pssOptions(0), pssOptions(1), pssOptions(2), pssOptions(3)}
	for range 120 {
		rest := el(0x30, pick(r, fields[0]...).laid, pick(r, fields[1]...).laid, pick(r, fields[2]...).laid, pick(r, fields[3]...).laid)
		for _, b := range near(slices.Concat(oid(hexPss), rest)) {
			wantSignOf(t, known, b)
		}
		for _, b := range near(rest[2:]) {
			wantSignOf(t, known, slices.Concat(oid(hexPss), el(0x30, b)))
		}
	}
}

func pssOf(fields ...[]byte) api.Tlv {
	return seq(oid(hexPss), el(0x30, fields...))
}

// Each field alone is told; two of one tag, and one behind a higher one, are not.
func TestPssOrder(t *testing.T) {
	known := ways()
	r := rand.New(rand.NewSource(123))
	fields := [][]byte{el(0xa0, el(0x30, oid(hexSha384))), el(0xa1, el(0x30, oid(hexMask), el(0x30, oid(hexSha512), void))), hx("a2 03 02 01 07"), hx("a3 03 02 01 01")}
	for i, f := range fields {
		for j, g := range fields {
			wantSignOf(t, known, pssOf(f, g).Data)
			if (i < j) != (known[string(pssOf(f, g).Data)] != api.Alg{}) {
				t.Errorf("fields %d, %d", i, j)
			}
		}
	}
	for range 2000 {
		var l [][]byte
		for range r.Intn(6) {
			l = append(l, pick(r, fields...))
		}
		wantSignOf(t, known, pssOf(l...).Data)
	}
	wantSign(t, pssOf(fields...), api.Alg{Kind: api.AlgPss, Digest: api.Sha384, Mask: api.Sha512, Salt: 7})
	wantSign(t, pssOf(fields[1], fields[3]), api.Alg{Kind: api.AlgPss, Digest: api.Sha1, Mask: api.Sha512, Salt: 20})
}

// A field's head: class Context, Cons, a tag from 0 to 3.
func TestPssHeads(t *testing.T) {
	about := [][]byte{el(0x30, oid(hexSha256)), el(0x30, oid(hexMask), el(0x30, oid(hexSha256))), hx("02 01 20"), hx("02 01 01")}
	for i, a := range about {
		wantSign(t, pssOf(el(0xa0+byte(i), a)), []api.Alg{
			{Kind: api.AlgPss, Digest: api.Sha256, Mask: api.Sha1, Salt: 20}, {Kind: api.AlgPss, Digest: api.Sha1, Mask: api.Sha256, Salt: 20},
			{Kind: api.AlgPss, Digest: api.Sha1, Mask: api.Sha1, Salt: 32}, {Kind: api.AlgPss, Digest: api.Sha1, Mask: api.Sha1, Salt: 20}}[i])
		for head := range 256 {
			if head != 0xa0+i && (head != 0xa2 || i != 3) && head&31 != 31 {
				wantNoSign(t, pssOf(el(byte(head), a)))
			}
		}
		wantNoSign(t, pssOf(slices.Concat([]byte{0xbf, 0x81, byte(i), byte(len(a))}, a)))
		wantNoSign(t, pssOf(slices.Concat([]byte{0xbf, 0x20, byte(len(a))}, a)))
		wantNoSign(t, pssOf(el(0xa4, a)))
		wantNoSign(t, pssOf(el(0xa0+byte(i))))
		wantNoSign(t, pssOf(el(0xa0+byte(i), a, a)))
		wantNoSign(t, pssOf(el(0xa0+byte(i), a, void)))
		wantNoSign(t, pssOf(el(0xa0+byte(i), void, a)))
		wantNoSign(t, pssOf(el(0xa0+byte(i), a, []byte{0})))
		wantNoSign(t, pssOf(a))
	}
	wantSign(t, pssOf(hx("a2 03 02 01 01")), api.Alg{Kind: api.AlgPss, Digest: api.Sha1, Mask: api.Sha1, Salt: 1})
}

// A rest that is none, void, or not a Seq of fields.
func TestPssRests(t *testing.T) {
	salt := hx("a2 03 02 01 07")
	for _, rest := range slices.Concat([][]byte{nil, void, el(0x31), el(0x31, salt), el(0x10, salt), el(0x70, salt), el(0xb0, salt), el(0xf0, salt), salt,
		el(0x30, salt, []byte{0}), el(0x30, salt[:4]), el(0x30, el(0x30, salt)), hx("30 06 a2 81 03 02 01 07"), hx("30 81 05 a2 03 02 01 07"), hx("30 07 a2 05 02 01 07"), hx("30 04 a2 80 00 00")}, moreThanOne) {
		wantNoSign(t, seq(oid(hexPss), rest))
	}
	wantNoSign(t, seq(oid(hexPss), el(0x30), el(0x30)))
	wantNoSign(t, seq(oid(hexPss), el(0x30), void))
	wantNoSign(t, seq(oid(hexPss), void, el(0x30)))
}

func TestPssDigestAndMask(t *testing.T) {
	for _, id := range [][]byte{el(0x30, oid(hexRsaSha256)), el(0x30, oid(hexMask)), el(0x30, oid(hexSha256), hx("05 01 00")), el(0x30, oid(hexSha256), hx("30 00")), el(0x30, oid(hexSha256), void, void),
		el(0x30, void), el(0x30), el(0x31, oid(hexSha256)), el(0x10, oid(hexSha256)), oid(hexSha256), void, el(0x30, oid(hexMask), el(0x30, oid(hexSha256), void))} {
		wantNoSign(t, pssOf(el(0xa0, id)))
		wantNoSign(t, pssOf(el(0xa1, el(0x30, oid(hexMask), id))))
	}
	good := el(0x30, oid(hexSha256), void)
	for _, id := range [][]byte{good, el(0x30, oid(hexMask)), el(0x30, oid(hexMask), void), el(0x30, oid(hexSha256), good), el(0x30, oid(hexRsa), good), el(0x30, oid(hexPss), good), el(0x30, good, oid(hexMask)),
		el(0x31, oid(hexMask), good), el(0x10, oid(hexMask), good), el(0x30, oid(hexMask), good, good), el(0x30, oid(hexMask), good, void), el(0x30, el(0x26, hx(hexMask)), good), el(0x30, el(0x86, hx(hexMask)), good)} {
		wantNoSign(t, pssOf(el(0xa1, id)))
	}
}

// An Int from 0 to 1000, and the Int 1.
func TestPssInts(t *testing.T) {
	for _, c := range []struct {
		data string
		salt int
	}{{"00", 0}, {"01", 1}, {"14", 20}, {"7f", 127}, {"00 80", 128}, {"03 e7", 999}, {"03 e8", 1000}} {
		wantSign(t, pssOf(el(0xa2, el(0x02, hx(c.data)))), api.Alg{Kind: api.AlgPss, Digest: api.Sha1, Mask: api.Sha1, Salt: c.salt})
	}
	for _, data := range []string{"", "03 e9", "04 00", "7f ff", "ff", "80", "fe 0c", "ff 80", "00 07", "00 00", "01 00 00", "01 00 00 00 07", "01 00 00 00 00 00 00 07", "7f ff ff ff ff ff ff ff",
		"80 00 00 00 00 00 00 00", "01 00 00 00 00 00 00 00 07", "00 80 00 00 00 00 00 00 07", "00 00 00 00 00 00 00 00 07"} {
		wantNoSign(t, pssOf(el(0xa2, el(0x02, hx(data)))))
		wantNoSign(t, pssOf(el(0xa3, el(0x02, hx(data)))))
	}
	for n := range 1100 {
		if n != 1 {
			wantNoSign(t, pssOf(el(0xa3, el(0x02, small(n)))))
		}
	}
	for _, head := range []byte{0x22, 0x42, 0x82, 0xc2, 0x0a, 0x01, 0x03, 0x04, 0x30} {
		wantNoSign(t, pssOf(el(0xa2, el(head, []byte{1}))))
		wantNoSign(t, pssOf(el(0xa3, el(head, []byte{1}))))
	}
}

// A wrong field takes back what one ahead of it said.
func TestPssNothingBesideAnError(t *testing.T) {
	ahead := slices.Concat(el(0xa0, el(0x30, oid(hexSha384))), el(0xa1, el(0x30, oid(hexMask), el(0x30, oid(hexSha512)))), hx("a2 03 02 01 07"))
	wantNoSign(t, pssOf(ahead, hx("a3 03 02 01 02")))
	wantNoSign(t, pssOf(ahead, hx("a4 03 02 01 01")))
	wantNoSign(t, pssOf(ahead, hx("a2 03 02 01 07")))
	wantNoSign(t, pssOf(ahead, void))
	wantSign(t, pssOf(ahead), api.Alg{Kind: api.AlgPss, Digest: api.Sha384, Mask: api.Sha512, Salt: 7})
}
