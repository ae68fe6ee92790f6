package cert_test

import (
	"bytes"
	"testing"

	"chirograph/api"
	"chirograph/der"
)

// P12.1 and P12.3: a Seq of which nothing more is said has whatever elements,
// but elements. Such are both that name the way to sign, the key, and what
// stands behind a policy's Oid.

// rows are Data that Split takes, none of which names an algorithm.
func rows() [][]byte {
	return [][]byte{nil, void, hx("30 01 05"), hx("a0 02 30 80"), hx("9f 81 00 01 05"), bytes.Repeat(void, 65), often(300, byte(1)), bytes.Repeat(void, api.MaxElems)}
}

// noRows are Data of which Split tells an error, each of its kinds.
func noRows() [][]byte {
	return [][]byte{{5}, {0x30}, {0}, {0, 0}, hx("30 80"), hx("30 80 00 00"), hx("02 81 01 05"), hx("02 82 00 01 05"), hx("04 02 01"), hx("1f 05 00"), hx("05 00 05"), hx("05 00 00 00"), hx("00 00 05 00"), hx("05 ff"), bytes.Repeat(void, api.MaxElems+1)}
}

func TestRowsAreSplit(t *testing.T) {
	for _, b := range rows() {
		if _, e, _ := der.Split(b); e != api.OK {
			t.Errorf("Split(%s): error %d", short(b), e)
		}
	}
	for _, b := range noRows() {
		if _, e, _ := der.Split(b); e == api.OK {
			t.Errorf("Split(%s): no error", short(b))
		}
	}
}

// qualified is a policy with a Seq about in behind its Oid.
func qualified(in []byte) []byte {
	return seq(hx("06 02 2a 03"), seq(in))
}

func TestSeqsOfWhatever(t *testing.T) {
	for _, in := range rows() {
		wantNoParse(t, "a way to sign", plain().signing(seq(in)).bytes(), api.ErrAlg)
		wantNoParse(t, "a key", plain().with(key, seq(in)).bytes(), api.ErrAlg)
		wantValue(t, 32, seq(qualified(in)), func(c *api.Cert) { c.Policies = []string{"1.2.3"} })
	}
}

func TestSeqsWithoutRow(t *testing.T) {
	p := seq(hx("06 02 2a 03"))
	for _, in := range noRows() {
		wantNoForm(t, "a way to sign", plain().signing(seq(in)))
		wantNoForm(t, "a way to sign, in what is signed", plain().with(way, seq(in)))
		c := plain()
		c.again = seq(in)
		wantNoForm(t, "a way to sign, behind", c)
		wantNoForm(t, "a key", plain().with(key, seq(in)))
		wantNoForm(t, "both", plain().signing(seq(in)).with(key, seq(in)))
		wantNoValue(t, 32, seq(qualified(in)))
		wantNoValue(t, 32, seq(p, qualified(in)))
		wantNoValue(t, 32, seq(qualified(in), p))
	}
}

// What names an algorithm, but for a piece of an element behind it, is none.
func TestPiecesBehind(t *testing.T) {
	for _, in := range noRows() {
		wantNoForm(t, "behind a way to sign", plain().signing(seq(hx(hexRsaSha1)[2:], in)))
		wantNoForm(t, "behind a key", plain().with(key, seq(plainKey()[2:], in)))
		wantNoValue(t, 32, seq(seq(hx("06 02 2a 03"), seq(void, in))))
	}
}

// A Seq without a row is told ahead of all that is told beyond the form.
func TestSeqsWithoutRowFirst(t *testing.T) {
	noRow := hx("30 01 05")
	spoilt := map[string]laid{
		"too many extensions": plain().extended(manyExts(65)...),
		"no such version":     plain().with(version, hx("a0 03 02 01 07")),
		"no version":          plain().extended(other(1)).with(version),
		"no way":              plain().signing(seq()),
		"no key's algorithm":  plain().with(key, seq()),
		"no key":              plain().with(key, seq(hx(hexRsa), hx("03 01 00"))),
		"twice":               plain().extended(other(1), other(1)),
	}
	for what, c := range spoilt {
		wantNoForm(t, what+", a way to sign", c.signing(noRow))
		wantNoForm(t, what+", a key", c.with(key, noRow))
		if what != "too many extensions" {
			wantNoForm(t, what+", a policy", c.extended(other(1), other(1), ext(32, seq(qualified([]byte{5})))))
		}
	}
	many := append(manyExts(64), ext(32, seq(qualified([]byte{5}))))
	wantNoExts(t, "a policy in too many extensions", api.ErrMany, many...)
}
