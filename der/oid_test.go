package der_test

import (
	"bytes"
	"math/rand"
	"strings"
	"testing"

	"chirograph/api"
	"chirograph/der"
)

// P4.5: object identifiers, there and back (P4.6).

func TestOid(t *testing.T) {
	for _, c := range []struct{ data, s string }{
		{"2a 86 48", "1.2.840"}, {"2a 86 48 86 f7 0d", "1.2.840.113549"}, {"88 37", "2.999"}, {"88 37 03", "2.999.3"},
		{"00", "0.0"}, {"27", "0.39"}, {"28", "1.0"}, {"4f", "1.39"}, {"50", "2.0"}, {"77", "2.39"}, {"78", "2.40"}, {"7f", "2.47"}, {"81 00", "2.48"},
		{"55 1d 20 00", api.AnyPolicy}, {"55 1d 25 00", api.AnyUse}, {"00 00 00", "0.0.0.0"}, {"2a 7f", "1.2.127"}, {"2a 81 00", "1.2.128"},
		{"2a ff 7f", "1.2.16383"}, {"2a 81 80 00", "1.2.16384"}, {"2a 81 80 80 01", "1.2.2097153"},
		{"2a 87 ff ff ff 7f", "1.2.2147483647"}, {"2a 87 ff ff ff 7f 05", "1.2.2147483647.5"}, {"88 80 80 80 4f", "2.2147483647"},
		{"88 80 80 80 4e", "2.2147483646"}, {"87 ff ff ff 7f", "2.2147483567"}, {"88 80 80 80 00", "2.2147483568"},
	} {
		wantOid(t, hx(c.data), c.s)
	}
	wantOid(t, cat(hx("2a"), fill(100000, 5)), "1.2"+strings.Repeat(".5", 100000))
}

func TestOidFaults(t *testing.T) {
	for _, data := range []string{"", "80", "ff", "80 01", "80 80 01", "2a 86", "2a 80", "2a 80 01", "2a 86 48 80 01", "2a 86 c8", "2a 05 80 80 05",
		"81 00 80", "81 80"} {
		wantNoOid(t, hx(data), api.ErrForm)
	}
	for _, data := range []string{"88 80 80 80 50", "88 80 80 80 51", "88 80 80 81 00", "8f ff ff ff 7f", "81 80 80 80 80 00", "2a 88 80 80 80 00",
		"2a 88 80 80 80 4f", "2a 8f ff ff ff 7f", "2a 90 80 80 80 00", "2a 88 80 80 80 00 05", "2a 05 88 80 80 80 00", "2a 82 80 80 80 80 80 80 80 80 01",
		"2a 82 80 80 80 80 80 80 80 80 00", "82 80 80 80 80 80 80 80 80 00", "81 80 80 80 80 80 80 80 80 80 80 80 80 80 2a", "ff ff ff ff ff ff ff ff ff ff 7f"} {
		wantNoOid(t, hx(data), api.ErrLong)
	}
	wantNoOid(t, cat(hx("2a"), fill(1000, 0x81), hx("00")), api.ErrLong)
	wantNoOid(t, cat(hx("2a"), fill(1000, 0x81)), api.ErrForm)
}

// A form that is wrong is told ahead of a number that is too great, wherever
// they stand.
func TestOidFirstError(t *testing.T) {
	for _, data := range []string{"8f ff ff ff 7f 80 01", "8f ff ff ff 7f 81", "2a 88 80 80 80 00 80 00", "ff ff ff ff ff"} {
		wantNoOid(t, hx(data), api.ErrForm)
	}
	for _, s := range []string{"2.2147483648.x", "2.2147483648.", "2.2147483648..1", "2.99999999999.01", "1.40.2147483648", "0.2147483648", "1.99999999999",
		"2147483648.1", "99999999999.99999999999", "3.99999999999", "99999999999", "4294967297.5", "18446744073709551617.5", "1.4294967297", "1.18446744073709551617"} {
		wantNoPutOid(t, s, api.ErrForm)
	}
}

func TestPutOidFaults(t *testing.T) {
	for _, s := range []string{"", "0", "1", "2", "12", ".", "..", "1.", ".1", "1.2.", ".1.2", "1..2", "1.2..3", "3.1", "3.0", "10.1", "20.1", "1.40", "0.40",
		"0.41", "1.100", "0.99", "01.2", "1.02", "1.00", "00.1", "1.2.00", "1.2.03", "2.0999", "1.2.000000000001", "-1.2", "1.-2", "+1.2", "1.+2", " 1.2", "1.2 ", "1. 2", "1,2", "1.2a",
		"a", "a.b", "1.a", "0x1.2", "1.2.3e2", "1.2/3", "1.2:3", "1.2\n", "1.2\x00", "\x001.2", "1.\u0662", "\u0661.2", "1\uff0e2", "1.2\xff", "\xff", "1.\xb2", "1.2.\u00b2", "oid.1.2",
		"1.2.\U0001d7d8", "1.2.\u0130", "1.2.\u0131"} {
		wantNoPutOid(t, s, api.ErrForm)
	}
	for _, s := range []string{"2.2147483648", "2.4294967295", "2.4294967296", "2.9999999999", "2.10000000000", "1.2.2147483648", "1.2.2147483648.5", "1.2.5.2147483648",
		"1.2.4294967296", "1.2.18446744073709551616", "1.2.18446744073709551621", "2.18446744073709551616", "1.39.99999999999999999999999999", "0.0.9999999999"} {
		wantNoPutOid(t, s, api.ErrLong)
	}
	wantNoPutOid(t, "2.1"+strings.Repeat("0", 100000), api.ErrLong)
	wantNoPutOid(t, "2.1"+strings.Repeat("0", 100000)+".", api.ErrForm)
	wantNoPutOid(t, "2."+strings.Repeat("0", 100000), api.ErrForm)
	wantNoPutOid(t, strings.Repeat("9", 100000)+".1", api.ErrForm)
}

// Both against a second writing: all short ones of some bytes and characters,
// and longer ones by chance.
func TestOidModel(t *testing.T) {
	for a := range 256 {
		oidLikeModel(t, []byte{byte(a)})
		for b := range 256 {
			oidLikeModel(t, []byte{byte(a), byte(b)})
			oidLikeModel(t, []byte{byte(a), 0x80, byte(b)})
		}
	}
	r := rand.New(rand.NewSource(13))
	for range 100000 {
		data := make([]byte, r.Intn(14))
		for i := range data {
			data[i] = pick(r, 0, 1, 0x7f, 0x80, 0x81, 0x88, 0xff, byte(r.Intn(256)), byte(r.Intn(128)))
		}
		oidLikeModel(t, data)
	}
}

func oidLikeModel(t *testing.T, data []byte) {
	t.Helper()
	if s, e := modelOid(data); e != api.OK {
		wantNoOid(t, data, e)
	} else {
		wantOid(t, data, s)
	}
}

func TestPutOidModel(t *testing.T) {
	letters := []string{"0", "1", "2", "9", ".", "/"}
	texts := []string{""}
	for range 6 {
		var longer []string
		for _, s := range texts {
			for _, c := range letters {
				longer = append(longer, s+c)
				putLikeModel(t, s+c)
			}
		}
		texts = longer
	}
	r := rand.New(rand.NewSource(17))
	for range 100000 {
		var words []string
		for range r.Intn(6) {
			words = append(words, pick(r, "0", "1", "2", "39", "40", "47", "48", "2147483647", "2147483648", "2147483567", "2147483568", "9999999999", "10000000000", "3", "127", "128", "", "07"))
		}
		putLikeModel(t, strings.Join(words, "."))
		putLikeModel(t, pick(r, "0.", "1.", "2.")+strings.Join(words, "."))
	}
}

func putLikeModel(t *testing.T, s string) {
	t.Helper()
	want, e := modelPutOid(s)
	if b, err := der.PutOid(s); err != e || !bytes.Equal(b, want) {
		t.Errorf("PutOid(%q): %x, error %d; wanted %x, error %d", s, b, err, want, e)
	}
	if e != api.OK {
		return
	}
	if back, e := der.Oid(want); back != s || e != api.OK {
		t.Errorf("Oid(%x): %q, error %d; wanted %q", want, back, e, s)
	}
}
