package alg_test

import (
	"math/big"
	"math/rand"
	"slices"
	"testing"

	"chirograph/api"
)

// P11.4

var curves = []int{api.P256, api.P384}

// twoTo is a power of two, a little more or less.
func twoTo(n int, more int64) *big.Int {
	return new(big.Int).Add(new(big.Int).Lsh(one, uint(n)), big.NewInt(more))
}

func TestKeys(t *testing.T) {
	r := rand.New(rand.NewSource(131))
	for _, bits := range []int{512, 520, 1023, 1024} {
		k := newProduct(r, bits)
		wantKey(t, seq(k.laid()), k.key())
		wantKey(t, seq(rsaData(el(0x30, oid(hexRsa)), number(k.n), number(big.NewInt(65537)))), k.key())
	}
	for _, c := range curves {
		for range 20 {
			k := newSecret(r, c)
			wantKey(t, seq(k.laid()), k.key())
		}
		wantKey(t, seq(secret{c, one}.laid()), secret{c, one}.key())
	}
}

func TestKeyHeads(t *testing.T) {
	r := rand.New(rand.NewSource(132))
	for _, data := range [][]byte{newProduct(r, 512).laid(), newSecret(r, api.P256).laid(), newSecret(r, api.P384).laid()} {
		for _, x := range otherHeads(seq(data)) {
			wantNoKey(t, x, api.ErrAlg)
		}
	}
	for _, x := range []api.Tlv{{}, seq(), seq(void), seq(void, void), seq(el(0x30), el(0x30)), {Tag: api.TagSeq, Cons: true}} {
		wantNoKey(t, x, api.ErrAlg)
	}
}

// good is what is behind an identifier: bits of which each kind tells a key.
func good(r *rand.Rand) [][]byte {
	var l [][]byte
	k := newProduct(r, 600)
	l = append(l, el(0x30, number(k.n), number(big.NewInt(3))))
	for _, c := range curves {
		l = append(l, newSecret(r, c).bits())
	}
	return l
}

// ids are what is ahead of each of the good ones.
func ids() [][]byte {
	return [][]byte{el(0x30, oid(hexRsa), void), el(0x30, oid(hexPoint), oid(hexP256)), el(0x30, oid(hexPoint), oid(hexP384))}
}

// Which identifiers there are: the first's rest none or void, the others' an
// Oid. What is no key under another one is so by ErrAlg, whatever the bits are.
func TestKeyIdentifiers(t *testing.T) {
	r := rand.New(rand.NewSource(133))
	rests := slices.Concat([][]byte{nil, void}, otherRests, moreThanOne)
	for _, digits := range allOids {
		rests = append(rests, oid(digits), el(0x26, hx(digits)), el(0x86, hx(digits)), el(0x0d, hx(digits)), el(0x30, oid(digits)))
	}
	rests = append(rests, slices.Concat(oid(hexP256), oid(hexP256)), slices.Concat(oid(hexP256), void), slices.Concat(void, oid(hexP256)), oid(hexP256+"80"), oid("80"+hexP384))
	for _, bits := range append(good(r), nil, []byte{1}) {
		for _, digits := range allOids {
			for _, rest := range rests {
				wantKeyOf(t, slices.Concat(el(0x30, oid(digits), rest), el(0x03, []byte{0}, bits)))
			}
		}
	}
}

// wantKeyOf asks what the model tells.
func wantKeyOf(t *testing.T, data []byte) {
	t.Helper()
	if k, e := modelKey(data); e == api.OK {
		wantKey(t, seq(data), k)
	} else {
		wantNoKey(t, seq(data), e)
	}
}

func TestKeyIdentifierHeads(t *testing.T) {
	r := rand.New(rand.NewSource(134))
	for i, bits := range good(r) {
		id, behind := ids()[i], el(0x03, []byte{0}, bits)
		wantKeyOf(t, slices.Concat(id, behind))
		for _, head := range []byte{0x31, 0x10, 0x70, 0xb0, 0xf0, 0x24} {
			wantNoKey(t, seq(el(head, id[2:]), behind), api.ErrAlg)
		}
		for _, head := range []byte{0x23, 0x43, 0x83, 0xc3, 0x04, 0x02, 0x05, 0x30} {
			wantNoKey(t, seq(id, el(head, []byte{0}, bits)), api.ErrAlg)
		}
		wantNoKey(t, seq(id), api.ErrAlg)
		wantNoKey(t, seq(behind), api.ErrAlg)
		wantNoKey(t, seq(behind, id), api.ErrAlg)
		wantNoKey(t, seq(id, behind, void), api.ErrAlg)
		wantNoKey(t, seq(id, behind, behind), api.ErrAlg)
		wantNoKey(t, seq(id, id, behind), api.ErrAlg)
		wantNoKey(t, seq(void, id, behind), api.ErrAlg)
		wantNoKey(t, seq(id, behind, []byte{0}), api.ErrAlg)
	}
}

// Bits that are none, or have some to spare, are told ahead of what they say.
func TestKeySpareBits(t *testing.T) {
	r := rand.New(rand.NewSource(135))
	for i, bits := range good(r) {
		id := ids()[i]
		for first := range 256 {
			wantKeyOf(t, slices.Concat(id, el(0x03, []byte{byte(first)}, bits)))
			wantKeyOf(t, slices.Concat(id, el(0x03, []byte{byte(first)})))
		}
		for spare := byte(1); spare < 8; spare++ {
			even := append(slices.Clone(bits), 0)
			wantNoKey(t, seq(id, el(0x03, []byte{spare}, even)), api.ErrAlg)
		}
		wantNoKey(t, seq(id, el(0x03)), api.ErrAlg)
		wantNoKey(t, seq(id, el(0x03, []byte{0})), api.ErrKey)
		wantNoKey(t, seq(id, el(0x03, []byte{1})), api.ErrAlg)
	}
}

// All that lack little to be a key.
func TestKeyModel(t *testing.T) {
	r := rand.New(rand.NewSource(136))
	k := newProduct(r, 513)
	l := [][]byte{k.laid(), rsaData(el(0x30, oid(hexRsa)), number(k.n), number(big.NewInt(3)))}
	for _, c := range curves {
		l = append(l, newSecret(r, c).laid())
	}
	for _, data := range l {
		for _, b := range near(data) {
			wantKeyOf(t, b)
		}
	}
	for i, bits := range good(r) {
		for _, b := range near(bits) {
			wantKeyOf(t, slices.Concat(ids()[i], el(0x03, []byte{0}, b)))
		}
	}
}

// wantRsa asks for the key of two numbers.
func wantRsa(t *testing.T, n, e *big.Int, asked api.Errno) {
	t.Helper()
	x := seq(rsaData(el(0x30, oid(hexRsa), void), number(n), number(e)))
	if asked == api.OK {
		wantKey(t, x, api.Key{Rsa: api.RsaKey{N: list(n), E: list(e)}})
	} else {
		wantNoKey(t, x, asked)
	}
}

// Which moduli and exponents there may be.
func TestRsaNumbers(t *testing.T) {
	n, e := twoTo(1024, -105), big.NewInt(65537)
	wantRsa(t, n, e, api.OK)
	for _, m := range []*big.Int{twoTo(511, 1), twoTo(512, -1), twoTo(512, 1), twoTo(32*api.MaxModulus, -1)} {
		wantRsa(t, m, e, api.OK)
	}
	for _, m := range []*big.Int{new(big.Int), one, big.NewInt(15), twoTo(511, -1), twoTo(511, 0), twoTo(512, -2), twoTo(32*api.MaxModulus, 1), twoTo(32*api.MaxLimbs, -1), twoTo(32*api.MaxLimbs, 1)} {
		wantRsa(t, m, e, api.ErrKey)
	}
	for _, f := range []*big.Int{big.NewInt(3), big.NewInt(5), twoTo(32, 1), twoTo(64, -1), twoTo(63, 1)} {
		wantRsa(t, n, f, api.OK)
	}
	for _, f := range []*big.Int{new(big.Int), one, big.NewInt(2), big.NewInt(4), big.NewInt(65536), twoTo(64, 1), twoTo(64, 0), twoTo(32*api.MaxLimbs, 1)} {
		wantRsa(t, n, f, api.ErrKey)
	}
}

// What the bits of the first kind are: just a Seq of two Ints.
func TestRsaForms(t *testing.T) {
	id := el(0x30, oid(hexRsa), void)
	n, e := number(twoTo(1024, -105)), number(big.NewInt(65537))
	digits := n[3:] // behind a head and a length, three bytes together
	wantKeyOf(t, rsaData(id, n, e))
	for _, l := range [][][]byte{{}, {n}, {e}, {n, e, e}, {n, e, void}, {void, n, e}, {e, n}, {n, e, {0}}, {n, e[:4]}, {n, void}, {void, e}, {el(0x30, n, e)},
		{el(0x22, digits), e}, {el(0x82, digits), e}, {el(0x0a, digits), e}, {el(0x03, digits), e}, {n, el(0x22, e[2:])}, {n, el(0x82, e[2:])}, {n, el(0x04, e[2:])},
		{el(0x02, []byte{0}, digits), e}, {el(0x02, digits[1:]), e}, {el(0x02), e}, {n, el(0x02)}, {n, el(0x02, []byte{0, 1, 0, 1})}, {n, el(0x02, []byte{0x81})}, {n, el(0x02, []byte{0, 3})}} {
		wantNoKey(t, seq(rsaData(id, l...)), api.ErrKey)
	}
	for _, bits := range [][]byte{nil, void, n, el(0x31, n, e), el(0x10, n, e), el(0x70, n, e), el(0xb0, n, e), slices.Concat(el(0x30, n, e), void), slices.Concat(el(0x30, n, e), []byte{0}),
		slices.Concat(el(0x30, n, e), el(0x30, n, e)), el(0x30, n, e)[:50], slices.Concat([]byte{0x30, 0x80}, n, e, []byte{0, 0}), el(0x30, el(0x30, n, e)), {4}} {
		wantNoKey(t, seq(id, el(0x03, []byte{0}, bits)), api.ErrKey)
	}
}

// What the bits of the second kind are: a point of the curve that is named.
func TestPointForms(t *testing.T) {
	r := rand.New(rand.NewSource(137))
	for _, c := range curves {
		k := newSecret(r, c)
		bits := k.bits()
		size := len(bits) / 2
		wantKey(t, seq(pointData(c, bits)), k.key())
		squeezed := slices.Concat([]byte{2 + bits[len(bits)-1]&1}, bits[1:1+size])
		turned := slices.Concat([]byte{4}, bits[1+size:], bits[1:1+size])
		for _, b := range [][]byte{nil, {0}, {4}, squeezed, turned, bits[1:], bits[:len(bits)-1], append(slices.Clone(bits), 0), append([]byte{4}, make([]byte, 2*size)...), newSecret(r, 3-c).bits(), el(0x04, bits)} {
			wantNoKey(t, seq(pointData(c, b)), api.ErrKey)
		}
		for first := range 256 {
			if b := slices.Clone(bits); first != 4 {
				b[0] = byte(first)
				wantNoKey(t, seq(pointData(c, b)), api.ErrKey)
			}
		}
		p := libraryCurve(c).Params().P.Bytes()
		wantNoKey(t, seq(pointData(c, slices.Concat([]byte{4}, p, p))), api.ErrKey)
	}
}
