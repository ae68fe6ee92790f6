package alg_test

import (
	"math/rand"
	"slices"
	"testing"

	"chirograph/api"
)

// P11.1, P11.2

func TestDigestExamples(t *testing.T) {
	wantDigest(t, seq(hx("06 05 2b 0e 03 02 1a 05 00")), api.Sha1)
	wantDigest(t, seq(hx("06 05 2b 0e 03 02 1a")), api.Sha1)
	wantDigest(t, seq(hx("06 09 60 86 48 01 65 03 04 02 01")), api.Sha256)
	wantDigest(t, seq(hx("06 09 60 86 48 01 65 03 04 02 02 05 00")), api.Sha384)
	wantDigest(t, seq(hx("06 09 60 86 48 01 65 03 04 02 03")), api.Sha512)
	wantNoDigest(t, seq(hx("06 05 2b 0e 03 02 1a 04 01 00")))
	wantNoDigest(t, seq())
	wantNoDigest(t, api.Tlv{})
	wantNoDigest(t, api.Tlv{Tag: api.TagNull, Raw: hx("05 00")})
}

func TestDigests(t *testing.T) {
	if len(digests()) != 8 {
		t.Fatal("not all of them")
	}
	for s, d := range digests() {
		x := seq([]byte(s))
		wantDigest(t, x, d)
		for _, y := range otherHeads(x) {
			wantNoDigest(t, y)
		}
	}
}

// Whatever else is named, alone or with a rest, is no digest.
func TestDigestOfOtherOids(t *testing.T) {
	known := digests()
	for _, digits := range allOids {
		for _, rest := range slices.Concat([][]byte{nil, void}, otherRests, moreThanOne) {
			data := slices.Concat(oid(digits), rest)
			if d, ok := known[string(data)]; ok {
				wantDigest(t, seq(data), d)
			} else {
				wantNoDigest(t, seq(data))
			}
		}
	}
}

// What is an Oid by its Data, but not by its head; and what is none by its Data.
func TestDigestWithoutOid(t *testing.T) {
	for _, rest := range [][]byte{nil, void} {
		for _, head := range []byte{0x26, 0x46, 0x86, 0xc6, 0x0d, 0x04, 0x02, 0x07, 0x30, 0x0c} {
			wantNoDigest(t, seq(el(head, hx(hexSha1)), rest))
		}
		for _, digits := range []string{"", "2b 0e 03 02 9a", "2b 0e 03 80 02 1a", "80 2b 0e 03 02 1a", "2b 0e 03 02 80 1a", "2b 0e 03 88 80 80 80 00", "2b 0e 03 02 1a 80"} {
			wantNoDigest(t, seq(oid(digits), rest))
		}
		wantNoDigest(t, seq(rest))
		wantNoDigest(t, seq(void, oid(hexSha1), rest))
		wantNoDigest(t, seq(oid(hexSha1), oid(hexSha1)))
		wantNoDigest(t, seq(oid(hexSha1), rest, void, void))
		wantNoDigest(t, seq(el(0x30, oid(hexSha1), rest)))
	}
}

// All that lack little to name a digest against those that name one.
func TestDigestModel(t *testing.T) {
	known := digests()
	for s := range known {
		for _, b := range near([]byte(s)) {
			if d, ok := known[string(b)]; ok {
				wantDigest(t, seq(b), d)
			} else {
				wantNoDigest(t, seq(b))
			}
		}
	}
	r := rand.New(rand.NewSource(121))
	for range 20000 {
		b := some(r, r.Intn(20))
		if _, ok := known[string(b)]; !ok {
			wantNoDigest(t, seq(b))
		}
	}
}

// Longer than may be split, or of more elements.
func TestDigestTooLong(t *testing.T) {
	long := make([]byte, api.MaxTotal+1)
	copy(long, oid(hexSha1))
	wantNoDigest(t, seq(long))
	wantNoDigest(t, seq(oid(hexSha1), slices.Repeat(void, api.MaxElems)))
	wantNoDigest(t, seq(oid(hexSha1), el(0x05, make([]byte, 70000))))
}
