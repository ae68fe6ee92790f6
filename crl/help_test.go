package crl_test

import (
	"encoding/hex"
	"fmt"
	"math/rand"
	"reflect"
	"slices"
	"strings"
	"testing"

	"chirograph/api"
	"chirograph/crl"
)

// hx has the bytes of hexadecimal digits; blanks are left out.
func hx(s string) []byte {
	b, err := hex.DecodeString(strings.ReplaceAll(s, " ", ""))
	if err != nil {
		panic(err)
	}
	return b
}

func pick[T any](r *rand.Rand, l ...T) T {
	return l[r.Intn(len(l))]
}

// often is a list of one thing, n times.
func often[T any](n int, x T) []T {
	return slices.Repeat([]T{x}, n)
}

// short shows the beginning of what may be long.
func short(b []byte) string {
	return hex.EncodeToString(b[:min(len(b), 400)])
}

// el lays an element by hand.
func el(head byte, data ...[]byte) []byte {
	d := slices.Concat(data...)
	n := len(d)
	switch {
	case n < 0x80:
		return append([]byte{head, byte(n)}, d...)
	case n < 0x100:
		return append([]byte{head, 0x81, byte(n)}, d...)
	case n < 0x10000:
		return append([]byte{head, 0x82, byte(n >> 8), byte(n)}, d...)
	}
	return append([]byte{head, 0x83, byte(n >> 16), byte(n >> 8), byte(n)}, d...)
}

func seq(data ...[]byte) []byte {
	return el(0x30, data...)
}

// small lays an Int.
func small(n int) []byte {
	b := []byte{byte(n)}
	for rest := n >> 7; rest != 0 && rest != -1; rest >>= 8 {
		b = append([]byte{byte(n >> (8 * len(b)))}, b...)
	}
	return el(0x02, b)
}

// reason lays what says why.
func reason(n int) []byte {
	return el(0x0a, small(n)[2:])
}

func utc(s string) []byte     { return el(0x17, []byte(s)) }
func general(s string) []byte { return el(0x18, []byte(s)) }

var (
	void = []byte{5, 0}
	yes  = []byte{1, 1, 0xff}
	no   = []byte{1, 1, 0}
)

// ext lays an extension 2.5.29.n that is not critical, must one that is.
func ext(n byte, data ...[]byte) []byte {
	return seq([]byte{6, 3, 0x55, 0x1d, n}, el(0x04, data...))
}

func must(n byte, data ...[]byte) []byte {
	return seq([]byte{6, 3, 0x55, 0x1d, n}, yes, el(0x04, data...))
}

// other lays an extension that nobody knows: 1.2.n.
func other(n int, critical ...[]byte) []byte {
	return seq(el(0x06, []byte{0x2a, byte(n)}), slices.Concat(critical...), []byte{4, 1, 0xee})
}

// manyExts are n extensions, no two alike.
func manyExts(n int) [][]byte {
	var l [][]byte
	for i := range n {
		l = append(l, seq(el(0x06, []byte{0x2a, 0x81 + byte(i/100), byte(i % 100)}), hx("04 00")))
	}
	return l
}

// entry lays one, of 1970; with extensions, if there are any.
func entry(serial []byte, l ...[]byte) []byte {
	more := []byte{}
	if len(l) > 0 {
		more = seq(l...)
	}
	return seq(el(0x02, serial), hx(epoch), more)
}

// The fields of what is signed, in their order.
const (
	version = iota
	way
	issuer
	this
	next
	entries
	exts
	fields
)

// laid is a list, field by field; one that is empty lacks.
type laid struct {
	in    [fields][]byte
	again []byte
	sig   []byte
}

func (c laid) tbs() []byte {
	return seq(c.in[:]...)
}

func (c laid) bytes() []byte {
	return seq(c.tbs(), c.again, c.sig)
}

func (c laid) with(field int, b ...[]byte) laid {
	c.in[field] = slices.Concat(b...)
	return c
}

// extended has just these extensions, listing just these entries.
func (c laid) extended(l ...[]byte) laid {
	return c.with(exts, el(0xa0, seq(l...)))
}

func (c laid) listing(l ...[]byte) laid {
	return c.with(entries, seq(l...))
}

// signing names another way to sign, in both places.
func (c laid) signing(b []byte) laid {
	c.again = b
	return c.with(way, b)
}

// signature is c with another one.
func (c laid) signature(b []byte) laid {
	c.sig = b
	return c
}

const (
	hexRsa      = "30 0d 06 09 2a 86 48 86 f7 0d 01 01 01 05 00"
	hexRsaSha1  = "30 0d 06 09 2a 86 48 86 f7 0d 01 01 05 05 00"
	hexEcSha256 = "30 0a 06 08 2a 86 48 ce 3d 04 03 02"
	hexGermany  = "30 0d 31 0b 30 09 06 03 55 04 06 13 02 44 45"
	hexRoot     = "30 0f 31 0d 30 0b 06 03 55 04 0a 13 04 52 6f 6f 74"
	from, until = "17 0d 32 30 30 31 30 31 30 30 30 30 30 30 5a", "17 0d 33 30 30 31 30 31 30 30 30 30 30 30 5a"
	epoch       = "17 0d 37 30 30 31 30 31 30 30 30 30 30 30 5a"
)

// plain is a list without entries and extensions, though of the version with
// these.
func plain() laid {
	return laid{again: hx(hexRsaSha1), sig: hx("03 03 00 aa bb"), in: [fields][]byte{
		version: hx("02 01 01"),
		way:     hx(hexRsaSha1),
		issuer:  hx(hexRoot),
		this:    hx(from),
		next:    hx(until),
	}}
}

func nameOf(kind, value string) [][]api.Atv {
	return [][]api.Atv{{{Type: kind, Tag: api.TagPrintable, Data: []byte(value)}}}
}

// plainCrl is what plain says.
func plainCrl() api.Crl {
	c := plain()
	return api.Crl{
		Raw: c.bytes(), Tbs: c.tbs(), Issuer: nameOf("2.5.4.10", "Root"),
		This: 1577836800, Next: 1893456000,
		Way: api.Alg{Kind: api.AlgRsa, Digest: api.Sha1}, Sig: []byte{0xaa, 0xbb},
	}
}

func nothing(*api.Crl) {}

// gone says that just these are.
func gone(l ...api.Gone) func(c *api.Crl) {
	return func(c *api.Crl) { c.Gone = l }
}

// evened has nil for each empty list, however deep.
func evened(v reflect.Value) {
	switch v.Kind() {
	case reflect.Struct:
		for i := range v.NumField() {
			evened(v.Field(i))
		}
	case reflect.Slice:
		if v.Len() == 0 {
			v.SetZero()
		}
		if v.Type().Elem().Kind() == reflect.Uint8 {
			return
		}
		for i := range v.Len() {
			evened(v.Index(i))
		}
	}
}

// same asks whether two answers are, nil and empty lists being alike. Both are
// evened on the way.
func same[T any](a, b T) bool {
	evened(reflect.ValueOf(&a).Elem())
	evened(reflect.ValueOf(&b).Elem())
	return reflect.DeepEqual(a, b)
}

// shown is what a list says, but for what is long and seen elsewhere.
func shown(c api.Crl) string {
	c.Raw, c.Tbs, c.Gone = nil, nil, c.Gone[:min(len(c.Gone), 20)]
	s := fmt.Sprintf("%+v", c)
	return s[:min(len(s), 800)]
}

func wantParse(t *testing.T, what string, b []byte, asked api.Crl) {
	t.Helper()
	if c, e := crl.Parse(b); e != api.OK || !same(c, asked) {
		t.Errorf("%s: Parse(%s): %s, error %d; wanted %s", what, short(b), shown(c), e, shown(asked))
	}
}

func wantNoParse(t *testing.T, what string, b []byte, asked api.Errno) {
	t.Helper()
	if c, e := crl.Parse(b); e != asked || !same(c, api.Crl{}) {
		t.Errorf("%s: Parse(%s): %s, error %d; wanted error %d", what, short(b), shown(c), e, asked)
	}
}

func wantNoForm(t *testing.T, what string, c laid) {
	t.Helper()
	wantNoParse(t, what, c.bytes(), api.ErrForm)
}

// wantLaid asks for what plain says, but for what change does to it.
func wantLaid(t *testing.T, what string, c laid, change func(c *api.Crl)) {
	t.Helper()
	asked := plainCrl()
	asked.Raw, asked.Tbs = c.bytes(), c.tbs()
	change(&asked)
	wantParse(t, what, c.bytes(), asked)
}

// wantExts asks for what lists with these extensions say.
func wantExts(t *testing.T, what string, change func(c *api.Crl), l ...[]byte) {
	t.Helper()
	wantLaid(t, what, plain().extended(l...), change)
}

func wantNoExts(t *testing.T, what string, asked api.Errno, l ...[]byte) {
	t.Helper()
	wantNoParse(t, what, plain().extended(l...).bytes(), asked)
}

// wantEntry asks for what a list says of an entry 05 with these extensions, and
// of others about it.
func wantEntry(t *testing.T, what string, reason int, unknown bool, l ...[]byte) {
	t.Helper()
	wantLaid(t, what, plain().listing(entry([]byte{4}), entry([]byte{5}, l...), entry([]byte{6})), func(c *api.Crl) {
		c.Gone = []api.Gone{{Serial: []byte{4}}, {Serial: []byte{5}, Reason: reason}, {Serial: []byte{6}}}
		c.Unknown = unknown
	})
}

func wantNoEntry(t *testing.T, what string, asked api.Errno, l ...[]byte) {
	t.Helper()
	bad := entry([]byte{5}, l...)
	wantNoParse(t, what, plain().listing(bad).bytes(), asked)
	wantNoParse(t, what+", behind another one", plain().listing(entry([]byte{4}), bad).bytes(), asked)
	wantNoParse(t, what+", ahead of another one", plain().listing(bad, entry([]byte{6})).bytes(), asked)
}
