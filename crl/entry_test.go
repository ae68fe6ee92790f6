package crl_test

import (
	"slices"
	"testing"

	"chirograph/api"
)

// P13.1 and P13.2: the entries.

func TestNoEntries(t *testing.T) {
	wantLaid(t, "an empty Seq", plain().listing(), nothing)
	wantLaid(t, "an empty Seq, without version", plain().listing().with(version), nothing)
	wantLaid(t, "an empty Seq behind one Time", plain().listing().with(next), func(c *api.Crl) { c.Next, c.Open = 0, true })
	wantLaid(t, "an empty Seq ahead of extensions", plain().listing().extended(ext(35, seq(hx("80 01 07")))), func(c *api.Crl) { c.Aki = []byte{7} })
}

func TestEntries(t *testing.T) {
	wantLaid(t, "one", plain().listing(entry([]byte{9})), gone(api.Gone{Serial: []byte{9}}))
	a := seq(small(300), utc("230601000000Z"), seq(ext(21, reason(4))))
	b := seq(small(2), general("20240229120000Z"))
	first, second := api.Gone{Serial: []byte{1, 0x2c}, At: 1685577600, Reason: 4}, api.Gone{Serial: []byte{2}, At: 1709208000}
	wantLaid(t, "in their order", plain().listing(a, b), gone(first, second))
	wantLaid(t, "in another order", plain().listing(b, a), gone(second, first))
	wantLaid(t, "twice the same", plain().listing(a, a, b), gone(first, first, second))
	c := seq(small(2), utc("700101000000Z"), seq(ext(21, reason(1))))
	wantLaid(t, "one serial, twice, otherwise", plain().listing(b, c), gone(second, api.Gone{Serial: []byte{2}, Reason: 1}))
}

// Entries are bounded by Split alone.
func TestManyEntries(t *testing.T) {
	for _, n := range []int{63, 64, 65, 256, 1000, api.MaxElems} {
		var l [][]byte
		var asked []api.Gone
		for i := range n {
			l = append(l, seq(small(i), hx(epoch)))
			asked = append(asked, api.Gone{Serial: small(i)[2:]})
		}
		wantLaid(t, "many", plain().listing(slices.Concat(l...)), gone(asked...))
	}
	wantNoForm(t, "more than Split takes", plain().listing(slices.Repeat(entry([]byte{1}), api.MaxElems+1)))
	wantNoForm(t, "many, the last one wrong", plain().listing(slices.Repeat(entry([]byte{1}), 999), seq(small(1))))
}

// A serial is any Int: its Data are told as they are.
func TestSerials(t *testing.T) {
	for _, data := range [][]byte{{0}, {1}, {0x7f}, {0x80}, {0xff}, {0, 0x80}, {0, 0xff}, {0xff, 0x7f}, often(8, byte(1)), often(9, byte(1)), often(20, byte(0x7f)), often(21, byte(0x81)), often(2049, byte(3)), often(5000, byte(0x80))} {
		wantLaid(t, "a serial", plain().listing(entry(data)), gone(api.Gone{Serial: data}))
	}
	for _, data := range [][]byte{{}, {0, 0}, {0, 0x7f}, {0xff, 0xff}, {0xff, 0x80}, append([]byte{0}, often(3000, byte(3))...), append([]byte{0xff}, often(30, byte(0x83))...)} {
		wantNoForm(t, "no serial", plain().listing(entry(data)))
		wantNoForm(t, "no serial, behind another one", plain().listing(entry([]byte{1}), entry(data)))
	}
}

func TestEntryForms(t *testing.T) {
	n, at, more := small(1), hx(epoch), seq(other(1))
	wantLaid(t, "all of it", plain().listing(seq(n, at, more)), gone(api.Gone{Serial: []byte{1}}))
	var wrong [][]byte
	for _, l := range [][][]byte{{}, {n}, {at}, {more}, {n, more}, {at, more}, {at, n}, {n, more, at}, {at, n, more}, {more, n, at}, {n, n, at}, {n, at, at}, {n, at, more, more}, {n, at, more, void}, {n, at, void}, {n, at, n}, {void, n, at}, {n, void, at},
		{n, at, seq()}, {n, at, seq(), more}, {n, at, other(1)}, {n, at, el(0x31, other(1))}, {n, at, el(0x10, other(1))}, {n, at, el(0xb0, other(1))}, {n, at, el(0xa0, more)}, {n, at, seq(more)}, {n, at, []byte{0x30}}, {n, at, more, []byte{5}}, {n, at, {0, 0}}} {
		wrong = append(wrong, seq(l...))
	}
	right := slices.Concat(n, at, more)
	for _, head := range []byte{0x31, 0x10, 0x70, 0xb0, 0xf0, 0xa0, 0x04, 0x24} {
		wrong = append(wrong, el(head, right))
	}
	wrong = append(wrong, right, void, n, at, more, seq(seq(right)))
	for _, x := range slices.Concat(noTimes(), noTimeHeads()) {
		wrong = append(wrong, seq(n, x), seq(n, x, more))
	}
	for _, x := range []string{"22 01 01", "82 01 01", "42 01 01", "0a 01 01", "03 01 01", "05 00", "30 03 02 01 01"} {
		wrong = append(wrong, seq(hx(x), at), seq(hx(x), at, more))
	}
	for _, in := range noRows() {
		wrong = append(wrong, seq(in), seq(n, at, in), seq(n, at, seq(in)), seq(n, at, seq(other(1), in)))
	}
	for _, x := range wrong {
		wantNoForm(t, "no entry", plain().listing(x))
		wantNoForm(t, "no entry, behind another one", plain().listing(seq(right), x))
		wantNoForm(t, "no entry, ahead of another one", plain().listing(x, seq(right)))
	}
	for _, in := range noRows() {
		wantNoForm(t, "no row of entries", plain().with(entries, seq(in)))
		wantNoForm(t, "a piece behind the entries", plain().with(entries, seq(seq(right), in)))
	}
}
