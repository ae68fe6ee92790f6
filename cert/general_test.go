package cert_test

import (
	"math/rand"
	"slices"
	"strings"
	"testing"

	"chirograph/api"
	"chirograph/cert"
	"chirograph/der"
)

// P12.2

func wantGeneral(t *testing.T, x api.Tlv, base bool, asked api.Gen) {
	t.Helper()
	if g, e := cert.General(x, base); e != api.OK || !same(g, asked) {
		t.Errorf("General(%d, %d, %v, %s, %v): %+v, error %d; wanted %+v", x.Class, x.Tag, x.Cons, short(x.Data), base, g, e, asked)
	}
}

func wantNoGeneral(t *testing.T, x api.Tlv, base bool) {
	t.Helper()
	if g, e := cert.General(x, base); e != api.ErrForm || !same(g, api.Gen{}) {
		t.Errorf("General(%d, %d, %v, %s, %v): %+v, error %d; wanted ErrForm", x.Class, x.Tag, x.Cons, short(x.Data), base, g, e)
	}
}

func context(tag int, cons bool, data string) api.Tlv {
	return api.Tlv{Class: api.Context, Tag: tag, Cons: cons, Data: []byte(data)}
}

func split(t *testing.T, digits string) api.Tlv {
	t.Helper()
	x, e := der.One(hx(digits))
	if e != api.OK {
		t.Fatalf("%s: error %d", digits, e)
	}
	return x
}

func TestGeneralExamples(t *testing.T) {
	wantGeneral(t, split(t, "82 01 61"), false, api.Gen{Kind: api.GenDns, Text: "a"})
	wantGeneral(t, split(t, "82 01 61"), true, api.Gen{Kind: api.GenDns, Text: "a"})
	wantGeneral(t, split(t, "81 03 61 40 62"), false, api.Gen{Kind: api.GenMail, Text: "a@b"})
	wantGeneral(t, split(t, "87 04 0a 00 00 01"), false, api.Gen{Kind: api.GenIp, Ip: []byte{10, 0, 0, 1}})
	wantNoGeneral(t, split(t, "87 04 0a 00 00 01"), true)
	wantGeneral(t, split(t, "a4 0f"+hexGermany), false, api.Gen{Kind: api.GenDir, Dir: nameOf("2.5.4.6", "DE")})
	wantGeneral(t, split(t, "a4 02 30 00"), true, api.Gen{Kind: api.GenDir})
	wantGeneral(t, split(t, "86 01 61"), false, api.Gen{Kind: 6})
}

// heads are all that may be, and more: a class, a tag, and whether it is Cons.
func heads(each func(class, tag int, cons bool)) {
	for _, class := range []int{0, 1, 2, 3, 4, -1, -2, 256 + 2, 1<<32 + 2, 1<<63 - 1, -1 << 63} {
		for _, tag := range []int{0, 1, 2, 3, 4, 5, 6, 7, 8, 9, 10, 16, 31, 128, -1, -4, 256 + 1, 256 + 2, 256 + 7, 1 << 32, 1<<32 + 1, 1<<32 + 4, 1<<63 - 1, -1 << 63} {
			each(class, tag, false)
			each(class, tag, true)
		}
	}
}

// Data that all the kinds take, one of them or none.
func generalData() []string {
	l := []string{"", "a", "\x00", "\x7f", "\x80", "\xff", "a\xc3\xa4", "abc", "0\x00", string(hx(hexGermany)), string(hx(hexRoot)), string(hx("31 00")), string(hx("30 00 30 00")), string(hx("30 00 00"))}
	for n := range 70 {
		l = append(l, strings.Repeat("1", n), strings.Repeat("\xfe", n))
	}
	return l
}

func isAscii(s string) bool {
	return strings.IndexFunc(s, func(c rune) bool { return c > 0x7f }) < 0
}

// generalOf is what a name of that head and data is: written once more.
func generalOf(x api.Tlv, base bool) (api.Gen, bool) {
	kind := api.Gen{Kind: x.Tag}
	s, times := string(x.Data), 1
	if base {
		times = 2
	}
	names := map[string][][]api.Atv{string(hx(hexGermany)): nameOf("2.5.4.6", "DE"), string(hx(hexRoot)): nameOf("2.5.4.10", "Root"), "0\x00": nil}
	dir, isName := names[s]
	switch {
	case x.Class != 2:
	case !x.Cons && (x.Tag == 1 || x.Tag == 2) && isAscii(s):
		kind.Text = s
		return kind, true
	case x.Cons && x.Tag == 4 && isName:
		kind.Dir = dir
		return kind, true
	case !x.Cons && x.Tag == 7 && (len(s) == 4*times || len(s) == 16*times):
		kind.Ip = x.Data
		return kind, true
	case x.Cons && slices.Contains([]int{0, 3, 5}, x.Tag), !x.Cons && slices.Contains([]int{6, 8}, x.Tag):
		return kind, true
	}
	return api.Gen{}, false
}

func TestGeneralKinds(t *testing.T) {
	taken := map[int]int{}
	heads(func(class, tag int, cons bool) {
		for _, s := range generalData() {
			for _, base := range []bool{false, true} {
				x := api.Tlv{Class: class, Tag: tag, Cons: cons, Data: []byte(s)}
				if g, ok := generalOf(x, base); ok {
					taken[tag]++
					wantGeneral(t, x, base, g)
				} else {
					wantNoGeneral(t, x, base)
				}
			}
		}
	})
	if len(taken) != 9 {
		t.Errorf("kinds that were taken: %v", taken)
	}
}

// Texts are such of the kind Ia5: all bytes below 80, and no other one, at
// each place.
func TestGeneralTexts(t *testing.T) {
	for _, tag := range []int{api.GenMail, api.GenDns} {
		for c := range 256 {
			for _, s := range []string{string([]byte{byte(c)}), "a" + string([]byte{byte(c)}), string([]byte{byte(c)}) + "a", "ab" + string([]byte{byte(c)}) + "c"} {
				if c < 0x80 {
					wantGeneral(t, context(tag, false, s), false, api.Gen{Kind: tag, Text: s})
				} else {
					wantNoGeneral(t, context(tag, false, s), true)
				}
			}
		}
		wantNoGeneral(t, context(tag, false, "\u00e4"), false)
		wantNoGeneral(t, context(tag, false, "\u20ac"), false)
		wantGeneral(t, context(tag, false, "  A B "), false, api.Gen{Kind: tag, Text: "  A B "})
		long := strings.Repeat("a.", 40000)
		wantGeneral(t, context(tag, false, long), false, api.Gen{Kind: tag, Text: long})
	}
}

// A directory's name is just one that layer 7 takes.
func TestGeneralNames(t *testing.T) {
	name := string(hx(hexGermany))
	for _, base := range []bool{false, true} {
		wantGeneral(t, context(4, true, name), base, api.Gen{Kind: 4, Dir: nameOf("2.5.4.6", "DE")})
		for _, s := range []string{"", name + name, name[:len(name)-1], name + "\x00", name[2:], "\x31" + name[1:], string(el(0x30, []byte(name))), string(el(0xa4, []byte(name))), "0\x80\x00\x00", "0\x81\x00",
			string(seq(often(65, hx(hexGermany)[2:])...))} {
			wantNoGeneral(t, context(4, true, s), base)
		}
		wantNoGeneral(t, context(4, false, name), base)
	}
	most := context(4, true, string(seq(often(64, hx(hexGermany)[2:])...)))
	wantGeneral(t, most, false, api.Gen{Kind: 4, Dir: often(64, nameOf("2.5.4.6", "DE")[0])})
}

// Only class, tag, Cons and Data count, whatever Raw says.
func TestGeneralRaw(t *testing.T) {
	for _, raw := range [][]byte{nil, {}, hx("82 01 62"), hx("87 04 0a 00 00 01"), hx(hexGermany), {0xff}} {
		x := context(2, false, "a")
		x.Raw = raw
		wantGeneral(t, x, false, api.Gen{Kind: 2, Text: "a"})
		x = context(4, true, string(hx(hexGermany)))
		x.Raw = raw
		wantGeneral(t, x, false, api.Gen{Kind: 4, Dir: nameOf("2.5.4.6", "DE")})
		wantNoGeneral(t, api.Tlv{Raw: raw}, false)
		wantNoGeneral(t, api.Tlv{Class: 2, Tag: 7, Raw: raw}, false)
	}
}

// What is more than elements may have is no name, but a text still.
func TestGeneralLong(t *testing.T) {
	long := make([]byte, api.MaxTotal+1)
	for tag := range 9 {
		x := api.Tlv{Class: api.Context, Tag: tag, Cons: tag == 0 || tag >= 3 && tag <= 5, Data: long}
		switch tag {
		case 1, 2:
			wantGeneral(t, x, false, api.Gen{Kind: tag, Text: string(long)})
		case 4, 7:
			wantNoGeneral(t, x, false)
		default:
			wantGeneral(t, x, false, api.Gen{Kind: tag})
		}
	}
}

func TestGeneralChance(t *testing.T) {
	r := rand.New(rand.NewSource(122))
	for range 20000 {
		data := make([]byte, r.Intn(34))
		r.Read(data)
		for i := range data {
			data[i] &= byte(pick(r, 0x7f, 0x7f, 0x7f, 0xff))
		}
		x := api.Tlv{Class: pick(r, 2, 2, 2, 0, 1, 3), Tag: r.Intn(10), Cons: r.Intn(2) == 0, Data: data}
		base := r.Intn(2) == 0
		if g, ok := generalOf(x, base); ok {
			wantGeneral(t, x, base, g)
		} else {
			wantNoGeneral(t, x, base)
		}
	}
}
