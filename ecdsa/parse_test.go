package ecdsa_test

import (
	"math/big"
	"math/rand"
	"slices"
	"testing"

	"chirograph/api"
	"chirograph/der"
	"chirograph/ecdsa"
)

// P10.2, P10.5

// el lays an element by hand.
func el(head byte, data ...[]byte) []byte {
	d := slices.Concat(data...)
	n := len(d)
	switch {
	case n < 0x80:
		return append([]byte{head, byte(n)}, d...)
	case n < 0x100:
		return append([]byte{head, 0x81, byte(n)}, d...)
	case n < 0x10000:
		return append([]byte{head, 0x82, byte(n >> 8), byte(n)}, d...)
	case n < 0x1000000:
		return append([]byte{head, 0x83, byte(n >> 16), byte(n >> 8), byte(n)}, d...)
	}
	return append([]byte{head, 0x84, byte(n >> 24), byte(n >> 16), byte(n >> 8), byte(n)}, d...)
}

// edges are numbers of all lengths, at the edges of bytes and limbs.
func edges() []limbs {
	l := []limbs{nil, {1}, {2}, {127}, {128}, {255}, {256}, {32767}, {32768}, {65535}, {65536}, {1<<31 - 1}, {1 << 31}, {1<<32 - 1}, {0, 1}, {0, 1 << 31}, {1, 2, 3},
		full(api.MaxLimbs), full(api.MaxLimbs - 1), append(full(api.MaxLimbs-1), 1<<31-1), append(make(limbs, api.MaxLimbs-1), 1), append(make(limbs, api.MaxLimbs-1), 1<<31)}
	for _, c := range curves {
		for d := int64(-2); d <= 2; d++ {
			l = append(l, list(new(big.Int).Add(order(c), big.NewInt(d))), list(new(big.Int).Add(prime(c), big.NewInt(d))))
		}
	}
	return l
}

func TestBuildAndParseExamples(t *testing.T) {
	b := hx("30 07 02 01 01 02 02 00 ff")
	wantBuild(t, limbs{1}, limbs{255}, b)
	wantParse(t, b, limbs{1}, limbs{255})
	wantNoParse(t, hx("30 03 02 01 01"), api.ErrTag)
	wantBuild(t, nil, nil, hx("30 06 02 01 00 02 01 00"))
	wantParse(t, hx("30 06 02 01 00 02 01 00"), nil, nil)
	wantBuild(t, limbs{128}, limbs{0, 1}, hx("30 0b 02 02 00 80 02 05 01 00 00 00 00"))
}

// Each number with each, in lists with limbs 0 at their ends, too: laid as Go's
// library lays them, and read again.
func TestBuildAndParse(t *testing.T) {
	for _, r := range edges() {
		for _, s := range edges() {
			b := laid(value(r), value(s))
			wantBuild(t, r, s, b)
			wantBuild(t, padded(r, api.MaxLimbs), padded(s, 20), b)
			wantParse(t, b, r, s)
			if t.Failed() {
				t.Fatal("given up")
			}
		}
	}
}

func TestBuildAndParseByChance(t *testing.T) {
	c := rand.New(rand.NewSource(103))
	for range 3000 {
		r, s := new(big.Int).Rand(c, new(big.Int).Lsh(one, uint(1+c.Intn(600)))), new(big.Int).Rand(c, new(big.Int).Lsh(one, uint(1+c.Intn(600))))
		b, e := ecdsa.Build(list(r), list(s))
		wantErrno(t, "Build", e, api.OK)
		wantParse(t, b, list(r), list(s))
		wantBuild(t, list(r), list(s), laid(r, s))
	}
}

// The list's length counts, not the value's.
func TestBuildTooLong(t *testing.T) {
	for _, over := range []limbs{make(limbs, api.MaxLimbs+1), padded(limbs{1}, api.MaxLimbs+1), full(api.MaxLimbs + 1), make(limbs, 100000)} {
		for _, other := range []limbs{nil, {1}, full(api.MaxLimbs), over} {
			for _, l := range [][2]limbs{{over, other}, {other, over}} {
				b, e := ecdsa.Build(l[0], l[1])
				if e != api.ErrArg || len(b) != 0 {
					t.Errorf("Build of %d and %d limbs: %x, error %d", len(l[0]), len(l[1]), b, e)
				}
			}
		}
	}
}

func TestParseOfNoOneElement(t *testing.T) {
	right := hx("30 06 02 01 01 02 01 02")
	for _, c := range []struct {
		sig []byte
		e   api.Errno
	}{
		{nil, api.ErrNone}, {hx("30"), api.ErrShort}, {hx("30 81"), api.ErrShort}, {hx("1f"), api.ErrShort},
		{hx("30 07 02 01 01 02 01 02"), api.ErrSize}, {hx("30 80 02 01 01 02 01 02 00 00"), api.ErrSize}, {hx("30 81 06 02 01 01 02 01 02"), api.ErrSize},
		{hx("30 82 00 06 02 01 01 02 01 02"), api.ErrSize}, {hx("30 ff"), api.ErrSize}, {hx("00 00"), api.ErrTag}, {hx("1f 80 10 00"), api.ErrTag}, {hx("3f 10 00"), api.ErrTag},
		{slices.Concat(right, right), api.ErrMany}, {slices.Concat(right, hx("05 00")), api.ErrMany}, {slices.Concat(right, hx("00 00")), api.ErrTag}, {slices.Concat(right, hx("05")), api.ErrShort},
		{hx("02 01 01 02 01 02"), api.ErrMany}, {make([]byte, api.MaxTotal+1), api.ErrLong}, {el(0x30, make([]byte, api.MaxTotal)), api.ErrLong},
	} {
		wantNoParse(t, c.sig, c.e)
	}
	for n := range right {
		asked := api.ErrSize // the Seq is longer than what there is
		if n < 2 {
			asked = []api.Errno{api.ErrNone, api.ErrShort}[n]
		}
		wantNoParse(t, right[:n], asked)
	}
}

// Only a Cons element Universal with TagSeq; what is within it is not asked
// ahead of that.
func TestParseOfNoSeq(t *testing.T) {
	for _, within := range [][]byte{hx("02 01 01 02 01 02"), nil, hx("02 05"), hx("02 01 80 02 01 00"), hx("ff")} {
		for head := range 256 {
			switch {
			case head&31 == 31, head == 0, head == 0x20, head == 0x30:
				continue
			}
			wantNoParse(t, el(byte(head), within), api.ErrTag)
		}
		wantNoParse(t, slices.Concat([]byte{0x3f, 0x30}, el(0, within)[1:]), api.ErrTag) // the tag 48
	}
}

func TestParseOfNoRow(t *testing.T) {
	for _, c := range []struct {
		within []byte
		e      api.Errno
	}{
		{hx("02"), api.ErrShort}, {hx("02 02 01"), api.ErrSize}, {hx("02 01 01 02 02 02"), api.ErrSize}, {hx("02 01 01 02"), api.ErrShort}, {hx("02 81 01 01 02 01 02"), api.ErrSize},
		{hx("02 01 01 02 81 01 02"), api.ErrSize}, {hx("22 80 02 01 01 00 00 02 01 02"), api.ErrSize}, {hx("00 00"), api.ErrTag}, {hx("02 01 01 02 01 02 00 00"), api.ErrTag},
		{hx("02 01 01 02 01 02 03"), api.ErrShort}, {hx("02 01 80 02 01 80 02 01"), api.ErrSize}, {hx("05 00 02 01"), api.ErrSize},
		{slices.Repeat(hx("05 00"), api.MaxElems+1), api.ErrMany}, {slices.Repeat(hx("05 00"), api.MaxElems), api.ErrTag},
	} {
		wantNoParse(t, el(0x30, c.within), c.e)
	}
}

// Just two elements, each an Int: that is asked of both ahead of what they say.
func TestParseOfNoInts(t *testing.T) {
	a := hx("02 01 01")
	for _, within := range [][]byte{nil, a, slices.Concat(a, a, a), slices.Repeat(a, 100), hx("05 00"), slices.Concat(a, a, hx("05 00")), slices.Concat(hx("30 06"), a, a)} {
		wantNoParse(t, el(0x30, within), api.ErrTag)
	}
	for _, data := range [][]byte{hx("01"), nil, hx("80"), hx("00 01"), make([]byte, 3000)} {
		for head := range 256 {
			if head&31 == 31 || head == 0 || head == 0x20 || head == 2 {
				continue
			}
			x := el(byte(head), data)
			wantNoParse(t, el(0x30, x, a), api.ErrTag)
			wantNoParse(t, el(0x30, a, x), api.ErrTag)
			wantNoParse(t, el(0x30, x, x), api.ErrTag)
			wantNoParse(t, el(0x30, hx("02 01 80"), x), api.ErrTag)
			wantNoParse(t, el(0x30, hx("02 00"), x), api.ErrTag)
		}
		wantNoParse(t, el(0x30, el(2, data), a, a), api.ErrTag)
	}
}

// The first one's error stands ahead of the second one's.
func TestParseOfNoNumbers(t *testing.T) {
	wrong := []struct {
		data []byte
		e    api.Errno
	}{
		{nil, api.ErrForm}, {hx("00 00"), api.ErrForm}, {hx("00 01"), api.ErrForm}, {hx("00 7f ff"), api.ErrForm}, {hx("ff ff"), api.ErrForm}, {hx("ff 80"), api.ErrForm},
		{hx("80"), api.ErrNeg}, {hx("ff"), api.ErrNeg}, {hx("80 00"), api.ErrNeg}, {hx("ff 7f"), api.ErrNeg}, {slices.Repeat([]byte{0x80}, 3000), api.ErrNeg},
		{slices.Repeat([]byte{1}, 4*api.MaxLimbs+1), api.ErrLong}, {append([]byte{0}, slices.Repeat([]byte{0xff}, 4*api.MaxLimbs+1)...), api.ErrLong},
		{slices.Repeat([]byte{0x7f}, 100000), api.ErrLong},
	}
	for _, x := range wrong {
		for _, fine := range [][]byte{{0}, {1}, hx("00 ff"), slices.Repeat([]byte{1}, 4*api.MaxLimbs)} {
			wantNoParse(t, el(0x30, el(2, x.data), el(2, fine)), x.e)
			wantNoParse(t, el(0x30, el(2, fine), el(2, x.data)), x.e)
		}
		for _, y := range wrong {
			wantNoParse(t, el(0x30, el(2, x.data), el(2, y.data)), x.e)
		}
	}
}

// worded is P10.2 as it stands there, fault by fault.
func worded(sig []byte) (r, s limbs, e api.Errno) {
	x, e := der.One(sig)
	if e != api.OK {
		return nil, nil, e
	}
	if x.Raw[0] != 0x30 {
		return nil, nil, api.ErrTag
	}
	l, e, _ := der.Split(x.Data)
	if e != api.OK {
		return nil, nil, e
	}
	if len(l) != 2 || l[0].Raw[0] != 2 || l[1].Raw[0] != 2 {
		return nil, nil, api.ErrTag
	}
	if r, e = der.Uint(l[0].Data); e != api.OK {
		return nil, nil, e
	}
	if s, e = der.Uint(l[1].Data); e != api.OK {
		return nil, nil, e
	}
	return r, s, api.OK
}

// Signatures in which some bytes are changed, left out or put in; and short
// rows of bytes that are often seen.
func TestParseOfBytesByChance(t *testing.T) {
	c := rand.New(rand.NewSource(104))
	often := hx("00 01 02 02 02 03 04 05 06 07 20 22 30 30 7f 80 81 ff")
	met := map[api.Errno]int{}
	for i := range 200000 {
		sig := laid(new(big.Int).Rand(c, big.NewInt(1<<20)), new(big.Int).Rand(c, big.NewInt(1<<(1+c.Intn(40)))))
		if i%4 == 0 {
			sig = make([]byte, c.Intn(10))
		}
		for range c.Intn(4) {
			at := c.Intn(len(sig) + 1)
			sig = slices.Replace(sig, at, min(len(sig), at+c.Intn(2)), slices.Repeat([]byte{often[c.Intn(len(often))]}, c.Intn(2))...)
		}
		r, s, e := worded(sig)
		met[e]++
		if e != api.OK {
			wantNoParse(t, sig, e)
			continue
		}
		wantParse(t, sig, r, s)
		wantBuild(t, r, s, sig) // what is read is built as it was
	}
	for _, e := range []api.Errno{api.OK, api.ErrShort, api.ErrMany, api.ErrNone, api.ErrForm, api.ErrTag, api.ErrSize, api.ErrNeg} {
		if met[e] < 50 {
			t.Errorf("error %d was met only %d times", e, met[e])
		}
	}
}
