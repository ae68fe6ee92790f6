package der_test

import (
	"bytes"
	"encoding/hex"
	"math/rand"
	"slices"
	"strings"
	"testing"

	"chirograph/api"
	"chirograph/der"
)

// hx has the bytes of hexadecimal digits; blanks are left out.
func hx(s string) []byte {
	b, err := hex.DecodeString(strings.ReplaceAll(s, " ", ""))
	if err != nil {
		panic(err)
	}
	return b
}

func cat(l ...[]byte) []byte {
	return slices.Concat(l...)
}

// fill has n bytes.
func fill(n int, c byte) []byte {
	return bytes.Repeat([]byte{c}, n)
}

func pick[T any](r *rand.Rand, l ...T) T {
	return l[r.Intn(len(l))]
}

// short shows the beginning of what may be long.
func short(b []byte) string {
	return hex.EncodeToString(b[:min(len(b), 60)])
}

// tlv is an element whose bytes are a front and Data.
func tlv(class, tag int, cons bool, front string, data []byte) api.Tlv {
	return api.Tlv{Class: class, Tag: tag, Cons: cons, Data: data, Raw: cat(hx(front), data)}
}

func sameTlv(x, y api.Tlv) bool {
	return x.Class == y.Class && x.Tag == y.Tag && x.Cons == y.Cons && bytes.Equal(x.Data, y.Data) && bytes.Equal(x.Raw, y.Raw)
}

func same(l, m []api.Tlv) bool {
	return slices.EqualFunc(l, m, sameTlv)
}

func isZero(x api.Tlv) bool {
	return sameTlv(x, api.Tlv{})
}

// wantSplit asks Split, and One, which tells the same in another way.
func wantSplit(t *testing.T, b []byte, l ...api.Tlv) {
	t.Helper()
	got, e, at := der.Split(b)
	if e != api.OK || at != len(b) || !same(got, l) {
		t.Errorf("Split(%s): error %d at %d, %d elements", short(b), e, at, len(got))
	}
	x, e := der.One(b)
	switch {
	case len(l) == 0 && (e != api.ErrNone || !isZero(x)),
		len(l) == 1 && (e != api.OK || !sameTlv(x, l[0])),
		len(l) > 1 && (e != api.ErrMany || !isZero(x)):
		t.Errorf("One(%s): error %d", short(b), e)
	}
}

func wantNoSplit(t *testing.T, b []byte, e api.Errno, at int) {
	t.Helper()
	l, err, place := der.Split(b)
	if err != e || place != at || len(l) != 0 {
		t.Errorf("Split(%s): error %d at %d, %d elements; wanted error %d at %d", short(b), err, place, len(l), e, at)
	}
	if x, err := der.One(b); err != e || !isZero(x) {
		t.Errorf("One(%s): error %d; wanted %d", short(b), err, e)
	}
}

func wantPut(t *testing.T, b []byte, class, tag int, cons bool, data ...[]byte) {
	t.Helper()
	got, e := der.Put(class, tag, cons, data...)
	if e != api.OK || !bytes.Equal(got, b) {
		t.Errorf("Put(%d, %d, %v): %s, error %d; wanted %s", class, tag, cons, short(got), e, short(b))
	}
}

func wantNoPut(t *testing.T, e api.Errno, class, tag int, data ...[]byte) {
	t.Helper()
	for _, cons := range []bool{false, true} {
		if b, err := der.Put(class, tag, cons, data...); err != e || len(b) != 0 {
			t.Errorf("Put(%d, %d, %v): %s, error %d; wanted error %d", class, tag, cons, short(b), err, e)
		}
	}
}

func wantBool(t *testing.T, data []byte, want bool, e api.Errno) {
	t.Helper()
	if got, err := der.Bool(data); got != want || err != e {
		t.Errorf("Bool(%s): %v, error %d; wanted %v, error %d", short(data), got, err, want, e)
	}
}

func wantInt(t *testing.T, data []byte, n int, e api.Errno) {
	t.Helper()
	if got, err := der.Int(data); got != n || err != e {
		t.Errorf("Int(%s): %d, error %d; wanted %d, error %d", short(data), got, err, n, e)
	}
	if e == api.OK && !bytes.Equal(der.PutInt(n), data) {
		t.Errorf("PutInt(%d): %x; wanted %x", n, der.PutInt(n), data)
	}
}

func wantUint(t *testing.T, data []byte, n []uint32, e api.Errno) {
	t.Helper()
	if got, err := der.Uint(data); !slices.Equal(got, n) || err != e {
		t.Errorf("Uint(%s): %d limbs, error %d; wanted %d limbs, error %d", short(data), len(got), err, len(n), e)
	}
	if e == api.OK {
		wantPutUint(t, n, data)
	}
}

func wantPutUint(t *testing.T, n []uint32, data []byte) {
	t.Helper()
	if got := der.PutUint(n); !bytes.Equal(got, data) {
		t.Errorf("PutUint of %d limbs: %s, %d bytes; wanted %s, %d bytes", len(n), short(got), len(got), short(data), len(data))
	}
}

func wantBits(t *testing.T, data, b []byte, spare int, e api.Errno) {
	t.Helper()
	if got, n, err := der.Bits(data); !bytes.Equal(got, b) || n != spare || err != e {
		t.Errorf("Bits(%s): %s, %d, error %d; wanted %s, %d, error %d", short(data), short(got), n, err, short(b), spare, e)
	}
}

func wantFlags(t *testing.T, data []byte, n uint32, e api.Errno) {
	t.Helper()
	if got, err := der.Flags(data); got != n || err != e {
		t.Errorf("Flags(%s): %x, error %d; wanted %x, error %d", short(data), got, err, n, e)
	}
}

// wantOid asks there and back.
func wantOid(t *testing.T, data []byte, s string) {
	t.Helper()
	if got, e := der.Oid(data); got != s || e != api.OK {
		t.Errorf("Oid(%s): %q, error %d; wanted %q", short(data), got, e, s)
	}
	if got, e := der.PutOid(s); !bytes.Equal(got, data) || e != api.OK {
		t.Errorf("PutOid(%q): %s, error %d; wanted %s", s, short(got), e, short(data))
	}
}

func wantNoOid(t *testing.T, data []byte, e api.Errno) {
	t.Helper()
	if s, err := der.Oid(data); s != "" || err != e {
		t.Errorf("Oid(%s): %q, error %d; wanted error %d", short(data), s, err, e)
	}
}

func wantNoPutOid(t *testing.T, s string, e api.Errno) {
	t.Helper()
	if b, err := der.PutOid(s); len(b) != 0 || err != e {
		t.Errorf("PutOid(%.60q): %s, error %d; wanted error %d", s, short(b), err, e)
	}
}
