package name_test

import (
	"bytes"
	"encoding/hex"
	"fmt"
	"math/rand"
	"slices"
	"strings"
	"testing"

	"chirograph/api"
	"chirograph/name"
)

type set = []api.Atv

type row = []set

// hx has the bytes of hexadecimal digits; blanks are left out.
func hx(s string) []byte {
	b, err := hex.DecodeString(strings.ReplaceAll(s, " ", ""))
	if err != nil {
		panic(err)
	}
	return b
}

func pick[T any](r *rand.Rand, l ...T) T {
	return l[r.Intn(len(l))]
}

// short shows the beginning of what may be long.
func short(b []byte) string {
	return hex.EncodeToString(b[:min(len(b), 80)])
}

func shown(n row) string {
	s := fmt.Sprint(n)
	return s[:min(len(s), 300)]
}

func atv(kind string, tag int, data string) api.Atv {
	return api.Atv{Type: kind, Tag: tag, Data: []byte(data)}
}

// cn is a part that says s.
func cn(s string) api.Atv {
	return atv("2.5.4.3", api.TagUtf8, s)
}

// one is a name of one part.
func one(x api.Atv) row {
	return row{set{x}}
}

// often is a list of one thing, n times.
func often[T any](n int, x T) []T {
	return slices.Repeat([]T{x}, n)
}

// el is an element laid by hand: its first byte, a length in the shortest way,
// and what is in it.
func el(first int, data ...string) string {
	d := strings.Join(data, "")
	n := len(d)
	var size []byte
	switch {
	case n < 0x80:
		size = []byte{byte(n)}
	case n < 0x100:
		size = []byte{0x81, byte(n)}
	case n < 0x10000:
		size = []byte{0x82, byte(n >> 8), byte(n)}
	case n < 0x1000000:
		size = []byte{0x83, byte(n >> 16), byte(n >> 8), byte(n)}
	default:
		size = []byte{0x84, byte(n >> 24), byte(n >> 16), byte(n >> 8), byte(n)}
	}
	return string([]byte{byte(first)}) + string(size) + d
}

func seq(data ...string) string {
	return el(0x30, data...)
}

func setOf(data ...string) string {
	return el(0x31, data...)
}

// part is one whose type is 2.5.4.3, and whose value is laid already.
func part(value string) string {
	return seq("\x06\x03\x55\x04\x03", value)
}

func sameAtv(x, y api.Atv) bool {
	return x.Type == y.Type && x.Tag == y.Tag && bytes.Equal(x.Data, y.Data)
}

// equal: not by what counts, but part by part, byte by byte.
func equal(n, m row) bool {
	return slices.EqualFunc(n, m, func(x, y set) bool { return slices.EqualFunc(x, y, sameAtv) })
}

func wantParse(t *testing.T, b string, n row) {
	t.Helper()
	if got, e := name.Parse([]byte(b)); e != api.OK || !equal(got, n) {
		t.Errorf("Parse(%s): %s, error %d; wanted %s", short([]byte(b)), shown(got), e, shown(n))
	}
}

func wantNoParse(t *testing.T, b string, e api.Errno) {
	t.Helper()
	if n, err := name.Parse([]byte(b)); err != e || len(n) != 0 {
		t.Errorf("Parse(%s): %d sets, error %d; wanted error %d", short([]byte(b)), len(n), err, e)
	}
}

func wantBuild(t *testing.T, n row, b string) {
	t.Helper()
	if got, e := name.Build(n); e != api.OK || string(got) != b {
		t.Errorf("Build(%s): %s, error %d; wanted %s", shown(n), short(got), e, short([]byte(b)))
	}
}

func wantNoBuild(t *testing.T, n row, e api.Errno) {
	t.Helper()
	if b, err := name.Build(n); err != e || len(b) != 0 {
		t.Errorf("Build(%s): %s, error %d; wanted error %d", shown(n), short(b), err, e)
	}
}

func wantKey(t *testing.T, n row, key string) {
	t.Helper()
	if got := name.Key(n); got != key {
		t.Errorf("Key(%s): %.100q; wanted %.100q", shown(n), got, key)
	}
}

// wantSame asks both ways round.
func wantSame(t *testing.T, n, m row, same bool) {
	t.Helper()
	if name.Same(n, m) != same || name.Same(m, n) != same {
		t.Errorf("Same(%s, %s): wanted %v", shown(n), shown(m), same)
	}
}

func wantWithin(t *testing.T, n, base row, within bool) {
	t.Helper()
	if name.Within(n, base) != within {
		t.Errorf("Within(%s, %s): wanted %v", shown(n), shown(base), within)
	}
}

func wantShow(t *testing.T, n row, s string) {
	t.Helper()
	if got := name.Show(n); got != s {
		t.Errorf("Show(%s): %.100q; wanted %.100q", shown(n), got, s)
	}
}

func drawnType(r *rand.Rand) string {
	return pick(r, "2.5.4.3", "2.5.4.6", "2.5.4.7", "2.5.4.8", "2.5.4.10", "2.5.4.11", "1.2.840.113549.1.9.1", "2.5.4.5", "1.2", "2.999", "0.9.2342.19200300.100.1.25", "2.2147483647.2147483647")
}

func drawnTag(r *rand.Rand) int {
	return pick(r, api.TagUtf8, api.TagUtf8, api.TagPrintable, api.TagPrintable, api.TagIa5, api.TagNumeric, api.TagVisible, api.TagBmp,
		1, 4, api.TagOid, api.TagSeq, api.TagSet, 30, 31, 127, 128, api.MaxTag)
}

// drawnData is a text in some kinds, and none in others.
func drawnData(r *rand.Rand) string {
	var b strings.Builder
	for range r.Intn(6) {
		b.WriteString(pick(r, "a", "A", "b", " ", "  ", "1", ",", "+", "=", "#", "\\", "\"", ";", "<", ">", "é", "\x00A", "\x00", "\x1f", "\x7f", "\xff", "/", ":"))
	}
	return b.String()
}

// drawn is a name, with few sets of few parts that are often alike.
func drawn(r *rand.Rand) row {
	n := make(row, r.Intn(4))
	for i := range n {
		n[i] = make(set, 1+r.Intn(3))
		for j := range n[i] {
			n[i][j] = atv(drawnType(r), drawnTag(r), drawnData(r))
		}
	}
	return n
}

// shuffled has other orders within the sets.
func shuffled(r *rand.Rand, n row) row {
	m := make(row, len(n))
	for i, s := range n {
		m[i] = slices.Clone(s)
		r.Shuffle(len(s), func(a, b int) { m[i][a], m[i][b] = m[i][b], m[i][a] })
	}
	return m
}
