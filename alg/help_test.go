package alg_test

import (
	"bytes"
	"crypto/sha1"
	"crypto/sha256"
	"crypto/sha512"
	"encoding/hex"
	"math/rand"
	"slices"
	"strings"
	"testing"

	"chirograph/alg"
	"chirograph/api"
)

var algs = []int{api.Sha1, api.Sha256, api.Sha384, api.Sha512}

// noAlgs are numbers by which no digest goes.
var noAlgs = []int{0, 5, 6, -1, -4, 20, 64, 256 + api.Sha256, 1 << 32, 1<<32 + api.Sha1, 1<<63 - 1, -1 << 63}

// noKinds are numbers by which no way to sign goes.
var noKinds = []int{0, 4, 5, -1, -2, 256 + api.AlgRsa, 1<<32 + api.AlgRsa, 1<<32 + api.AlgPss, 1<<32 + api.AlgEcdsa, 1<<63 - 1, -1 << 63}

type limbs = []uint32

// hx has the bytes of hexadecimal digits; blanks are left out.
func hx(s string) []byte {
	b, err := hex.DecodeString(strings.ReplaceAll(s, " ", ""))
	if err != nil {
		panic(err)
	}
	return b
}

func pick[T any](r *rand.Rand, l ...T) T {
	return l[r.Intn(len(l))]
}

// some has n bytes by chance.
func some(r *rand.Rand, n int) []byte {
	b := make([]byte, n)
	r.Read(b)
	return b
}

// short shows the beginning of what may be long.
func short(b []byte) string {
	return hex.EncodeToString(b[:min(len(b), 200)])
}

// library is the digest of lists, reckoned by Go's library.
func library(alg int, l ...[]byte) []byte {
	m := bytes.Join(l, nil)
	switch alg {
	case api.Sha1:
		s := sha1.Sum(m)
		return s[:]
	case api.Sha256:
		s := sha256.Sum256(m)
		return s[:]
	case api.Sha384:
		s := sha512.Sum384(m)
		return s[:]
	}
	s := sha512.Sum512(m)
	return s[:]
}

// el lays an element by hand.
func el(head byte, data ...[]byte) []byte {
	d := slices.Concat(data...)
	n := len(d)
	switch {
	case n < 0x80:
		return append([]byte{head, byte(n)}, d...)
	case n < 0x100:
		return append([]byte{head, 0x81, byte(n)}, d...)
	case n < 0x10000:
		return append([]byte{head, 0x82, byte(n >> 8), byte(n)}, d...)
	}
	return append([]byte{head, 0x83, byte(n >> 16), byte(n >> 8), byte(n)}, d...)
}

// seq is an element with TagSeq, as a Split would tell it.
func seq(data ...[]byte) api.Tlv {
	return api.Tlv{Class: api.Universal, Tag: api.TagSeq, Cons: true, Data: slices.Concat(data...), Raw: el(0x30, data...)}
}

// The object identifiers, as they are laid.
const (
	hexSha1        = "2b 0e 03 02 1a"
	hexSha256      = "60 86 48 01 65 03 04 02 01"
	hexSha384      = "60 86 48 01 65 03 04 02 02"
	hexSha512      = "60 86 48 01 65 03 04 02 03"
	hexRsa         = "2a 86 48 86 f7 0d 01 01 01"
	hexRsaSha1     = "2a 86 48 86 f7 0d 01 01 05"
	hexMask        = "2a 86 48 86 f7 0d 01 01 08"
	hexPss         = "2a 86 48 86 f7 0d 01 01 0a"
	hexRsaSha256   = "2a 86 48 86 f7 0d 01 01 0b"
	hexRsaSha384   = "2a 86 48 86 f7 0d 01 01 0c"
	hexRsaSha512   = "2a 86 48 86 f7 0d 01 01 0d"
	hexEcdsaSha1   = "2a 86 48 ce 3d 04 01"
	hexEcdsaSha256 = "2a 86 48 ce 3d 04 03 02"
	hexEcdsaSha384 = "2a 86 48 ce 3d 04 03 03"
	hexEcdsaSha512 = "2a 86 48 ce 3d 04 03 04"
	hexPoint       = "2a 86 48 ce 3d 02 01"
	hexP256        = "2a 86 48 ce 3d 03 01 07"
	hexP384        = "2b 81 04 00 22"
)

var allOids = []string{hexSha1, hexSha256, hexSha384, hexSha512, hexRsa, hexRsaSha1, hexMask, hexPss, hexRsaSha256, hexRsaSha384, hexRsaSha512,
	hexEcdsaSha1, hexEcdsaSha256, hexEcdsaSha384, hexEcdsaSha512, hexPoint, hexP256, hexP384,
	"2a 86 48 86 f7 0d 01 01", "2a 86 48 86 f7 0d 01 01 02", "2a 86 48 86 f7 0d 01 01 04", "2a 86 48 86 f7 0d 01 01 07", "2a 86 48 86 f7 0d 01 01 09",
	"2a 86 48 86 f7 0d 01 01 0e", "60 86 48 01 65 03 04 02 04", "60 86 48 01 65 03 04 02", "60 86 48 01 65 03 04 02 00", "2b 0e 03 02", "2b 0e 03 02 1d",
	"2a 86 48 ce 3d 04 03 01", "2a 86 48 ce 3d 04 03", "2a 86 48 ce 3d 04 02", "2a 86 48 ce 3d 03 01 01", "2b 81 04 00 23", "2b 81 04 00 0a", "2a 03"}

func oid(digits string) []byte {
	return el(0x06, hx(digits))
}

var void = []byte{5, 0}

// otherRests are rests that are neither none nor void, though some lack little
// to be it.
var otherRests = [][]byte{
	hx("05 01 00"), hx("25 00"), hx("85 00"), hx("45 00"), hx("c5 00"), hx("04 00"), hx("06 01 2a"), hx("30 00"), hx("02 01 00"), hx("31 00"), hx("0a 00"), hx("a0 00"),
	hx("30 02 05 00"), hx("bf 85 00 00"), hx("1f 25 00"),
}

// moreThanOne are not a rest at all: two, one that is cut, one laid too long.
var moreThanOne = [][]byte{
	hx("05 00 05 00"), hx("05 00 30 00"), hx("05"), hx("05 01"), hx("05 81 00"), hx("05 80"), hx("00"), hx("00 00"), hx("05 00 00"), hx("05 00 00 00"), hx("30 80 00 00"),
}

func wantDigest(t *testing.T, x api.Tlv, asked int) {
	t.Helper()
	if d, e := alg.Digest(x); d != asked || e != api.OK {
		t.Errorf("Digest(%s): %d, error %d; wanted %d", short(x.Data), d, e, asked)
	}
}

func wantNoDigest(t *testing.T, x api.Tlv) {
	t.Helper()
	if d, e := alg.Digest(x); d != 0 || e != api.ErrAlg {
		t.Errorf("Digest(%d, %d, %v, %s): %d, error %d; wanted ErrAlg", x.Class, x.Tag, x.Cons, short(x.Data), d, e)
	}
}

func wantSign(t *testing.T, x api.Tlv, asked api.Alg) {
	t.Helper()
	if a, e := alg.Sign(x); a != asked || e != api.OK {
		t.Errorf("Sign(%s): %v, error %d; wanted %v", short(x.Data), a, e, asked)
	}
}

func wantNoSign(t *testing.T, x api.Tlv) {
	t.Helper()
	if a, e := alg.Sign(x); a != (api.Alg{}) || e != api.ErrAlg {
		t.Errorf("Sign(%d, %d, %v, %s): %v, error %d; wanted ErrAlg", x.Class, x.Tag, x.Cons, short(x.Data), a, e)
	}
}

func sameKey(k, l api.Key) bool {
	return k.Curve == l.Curve && slices.Equal(k.Rsa.N, l.Rsa.N) && slices.Equal(k.Rsa.E, l.Rsa.E) && slices.Equal(k.Point.X, l.Point.X) && slices.Equal(k.Point.Y, l.Point.Y)
}

func wantKey(t *testing.T, x api.Tlv, asked api.Key) {
	t.Helper()
	if k, e := alg.Key(x); !sameKey(k, asked) || e != api.OK {
		t.Errorf("Key(%s): %x, error %d; wanted %x", short(x.Data), k, e, asked)
	}
}

func wantNoKey(t *testing.T, x api.Tlv, asked api.Errno) {
	t.Helper()
	if k, e := alg.Key(x); !sameKey(k, api.Key{}) || e != asked {
		t.Errorf("Key(%d, %d, %v, %s): %x, error %d; wanted error %d", x.Class, x.Tag, x.Cons, short(x.Data), k, e, asked)
	}
}

func wantErrno(t *testing.T, what string, e, asked api.Errno) {
	t.Helper()
	if e != asked {
		t.Errorf("%s: error %d; wanted %d", what, e, asked)
	}
}

// otherHeads are elements with the same Data that are no Cons ones, Universal
// with TagSeq.
func otherHeads(x api.Tlv) []api.Tlv {
	var l []api.Tlv
	for _, class := range []int{1, 2, 3, 4, -1, 256, 1 << 32} {
		y := x
		y.Class = class
		l = append(l, y)
	}
	for _, tag := range []int{0, 1, 3, 4, 5, 6, 15, 17, 48, -16, 256 + 16, 1<<32 + 16} {
		y := x
		y.Tag = tag
		l = append(l, y)
	}
	y := x
	y.Cons = false
	return append(l, y)
}

// near are bytes that lack little to be b: one bit, one byte more or fewer, cut,
// or doubled; some of them may be as good as b.
func near(b []byte) [][]byte {
	l := [][]byte{nil, slices.Concat(b, b)}
	for i := range b {
		for bit := range 8 {
			c := slices.Clone(b)
			c[i] ^= 1 << bit
			l = append(l, c)
		}
		l = append(l, b[:i], b[i:], slices.Delete(slices.Clone(b), i, i+1))
	}
	for i := range len(b) + 1 {
		for _, v := range []byte{0, 1, 2, 5, 6, 0x30, 0x80, 0x81, 0xa0, 0xff} {
			l = append(l, slices.Insert(slices.Clone(b), i, v))
		}
	}
	return l
}
