package realm_test

import (
	"math/rand"
	"slices"
	"testing"
)

// P14.2: the example of the chapter, and nets of other sizes.
func TestNet(t *testing.T) {
	wantNet(t, hx("0a 01 02 03"), hx("0a 01 00 00 ff ff 00 00"), true)
	wantNet(t, hx("0a 02 02 03"), hx("0a 01 00 00 ff ff 00 00"), false)
	wantNet(t, hx("0b 01 02 03"), hx("0a 01 00 00 ff ff 00 00"), false)
	wantNet(t, hx("0a 01 02 03"), hx("00 00 00 00 00 00 00 00"), true)
	wantNet(t, hx("0a 01 02 03"), hx("0a 01 02 03 ff ff ff ff"), true)
	wantNet(t, hx("0a 01 02 02"), hx("0a 01 02 03 ff ff ff ff"), false)
	wantNet(t, hx("0a 01 02 03"), hx("0a 01 02 03 ff ff ff fe"), true)
	wantNet(t, hx("0a 01 02 02"), hx("0a 01 02 03 ff ff ff fe"), true) // address & mask: bits outside the mask play no part
	wantNet(t, hx("0a 01 02 03"), hx("ff ff ff ff 00 00 00 00"), true)
	wantNet(t, hx("0a 01 02 03"), hx("05 fe fd fc 00 00 00 00"), true)
	wantNet(t, hx("aa"), hx("ff aa"), true) // a mask need not be a row of bits
	wantNet(t, hx("ff"), hx("aa aa"), true)
	wantNet(t, hx("55"), hx("aa aa"), false)
	wide := slices.Concat(hx("20 01 0d b8"), make([]byte, 12))
	wantNet(t, append(wide[:15:15], 9), slices.Concat(wide, hx("ff ff ff ff"), make([]byte, 12)), true)
	wantNet(t, append(wide[:15:15], 9), slices.Concat(wide, often(16, byte(0xff))), false)
}

// P14.2: just twice as many bytes, and one or more.
func TestNetSizes(t *testing.T) {
	for n := range 40 {
		for m := range 90 {
			wantNet(t, make([]byte, n), make([]byte, m), n > 0 && m == 2*n)
			wantNet(t, often(n, byte(5)), often(m, byte(5)), n > 0 && m == 2*n)
		}
	}
	wantNet(t, nil, nil, false)
	wantNet(t, []byte{}, []byte{}, false)
	wantNet(t, nil, []byte{0, 0}, false)
	wantNet(t, []byte{1}, nil, false)
	n := 1 << 20
	wantNet(t, make([]byte, n), make([]byte, 2*n), true)
	wantNet(t, make([]byte, n), make([]byte, 2*n-1), false)
}

// P14.2: each byte counts, at each place.
func TestNetBytes(t *testing.T) {
	for a := range 256 {
		for b := range 256 {
			for _, mask := range []int{0, 1, 0x80, 0xf0, 0xfe, 0xff, a, b} {
				wantNet(t, []byte{byte(a)}, []byte{byte(b), byte(mask)}, (a^b)&mask == 0)
			}
		}
	}
	for i := range 16 {
		for bit := range 8 {
			a, base := make([]byte, 16), slices.Concat(make([]byte, 16), often(16, byte(0xff)))
			a[i] = 1 << bit
			wantNet(t, a, base, false)
			base[16+i] ^= 1 << bit
			wantNet(t, a, base, true)
			base[i] = 1 << bit
			wantNet(t, a, base, true)
			base[16+i] = 1 << bit
			wantNet(t, a, base, true)
			a[i] = 0
			wantNet(t, a, base, false)
		}
	}
}

// P14.2: by chance, against the second writing.
func TestNetAgainstModel(t *testing.T) {
	r := rand.New(rand.NewSource(142))
	good := 0
	for range 200000 {
		n := r.Intn(6)
		a, base := drawnBytes(r, n), drawnBytes(r, pick(r, 2*n, 2*n, 2*n, r.Intn(12)))
		wantNet(t, a, base, modelNet(a, base))
		if modelNet(a, base) {
			good++
		}
		if t.Failed() {
			return
		}
	}
	if good < 10000 {
		t.Errorf("only %d were of a net", good)
	}
}
