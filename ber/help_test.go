package ber_test

import (
	"bytes"
	"encoding/hex"
	"math/rand"
	"slices"
	"strings"
	"testing"

	"chirograph/api"
	"chirograph/ber"
)

// hx has the bytes of hexadecimal digits; blanks are left out.
func hx(s string) []byte {
	b, err := hex.DecodeString(strings.ReplaceAll(s, " ", ""))
	if err != nil {
		panic(err)
	}
	return b
}

func cat(l ...[]byte) []byte {
	return slices.Concat(l...)
}

// in is a Cons element of the class Universal at a depth, of those a plain one
// with Data.
func in(depth, tag int) api.Elem {
	return api.Elem{Depth: depth, Tag: tag, Cons: true}
}

func of(depth, tag int, data string) api.Elem {
	return api.Elem{Depth: depth, Tag: tag, Data: hx(data)}
}

func sameElem(x, y api.Elem) bool {
	return x.Depth == y.Depth && x.Class == y.Class && x.Tag == y.Tag && x.Cons == y.Cons && bytes.Equal(x.Data, y.Data)
}

func same(l, m []api.Elem) bool {
	return slices.EqualFunc(l, m, sameElem)
}

// short shows the beginning of what may be long.
func short(b []byte) string {
	return hex.EncodeToString(b[:min(len(b), 60)])
}

func wantParse(t *testing.T, b []byte, l []api.Elem) {
	t.Helper()
	got, e, at := ber.Parse(b)
	if e != api.OK || at != len(b) || !same(got, l) {
		t.Errorf("Parse(%s): error %d at %d, %d elements", short(b), e, at, len(got))
	}
}

func wantNoParse(t *testing.T, b []byte, e api.Errno, at int) {
	t.Helper()
	l, err, place := ber.Parse(b)
	if err != e || place != at || len(l) != 0 {
		t.Errorf("Parse(%s): error %d at %d, %d elements; wanted error %d at %d", short(b), err, place, len(l), e, at)
	}
}

func wantEncode(t *testing.T, l []api.Elem, b []byte) {
	t.Helper()
	got, e := ber.Encode(l)
	if e != api.OK || !bytes.Equal(got, b) {
		t.Errorf("Encode: %s, error %d; wanted %s", short(got), e, short(b))
	}
}

func wantNoEncode(t *testing.T, what string, l []api.Elem, e api.Errno) {
	t.Helper()
	if b, err := ber.Encode(l); err != e || len(b) != 0 {
		t.Errorf("Encode, %s: %s, error %d; wanted error %d", what, short(b), err, e)
	}
}

func wantNormal(t *testing.T, l, m []api.Elem) {
	t.Helper()
	got, e, at := ber.Normal(l)
	if e != api.OK || at != 0 || !same(got, m) {
		t.Errorf("Normal: error %d at %d, %v; wanted %v", e, at, got, m)
	}
}

func wantNoNormal(t *testing.T, what string, l []api.Elem, e api.Errno, at int) {
	t.Helper()
	m, err, place := ber.Normal(l)
	if err != e || place != at || len(m) != 0 {
		t.Errorf("Normal, %s: error %d at %d, %d elements; wanted error %d at %d", what, err, place, len(m), e, at)
	}
}

func wantDer(t *testing.T, b, d []byte) {
	t.Helper()
	got, e := ber.ToDer(b)
	if e != api.OK || !bytes.Equal(got, d) {
		t.Errorf("ToDer(%s): %s, error %d; wanted %s", short(b), short(got), e, short(d))
	}
	if ber.IsDer(b) != bytes.Equal(b, d) {
		t.Errorf("IsDer(%s): %v", short(b), ber.IsDer(b))
	}
}

func wantNoDer(t *testing.T, b []byte, e api.Errno) {
	t.Helper()
	if d, err := ber.ToDer(b); err != e || len(d) != 0 {
		t.Errorf("ToDer(%s): %s, error %d; wanted error %d", short(b), short(d), err, e)
	}
	if ber.IsDer(b) {
		t.Errorf("IsDer(%s)", short(b))
	}
}

// fill has n bytes.
func fill(n int, c byte) []byte {
	return bytes.Repeat([]byte{c}, n)
}

func pick[T any](r *rand.Rand, l ...T) T {
	return l[r.Intn(len(l))]
}
