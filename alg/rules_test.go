package alg_test

import (
	"math/rand"
	"slices"
	"testing"

	"chirograph/alg"
	"chirograph/api"
)

func whole[T any](l []T) []T {
	return l[:cap(l)]
}

// roomy is l in other memory, with spare room in which something stands.
func roomy[T byte | uint32](l []T) []T {
	return append(slices.Clone(l), 11, 12, 13, 14, 15, 16, 17)[:len(l)]
}

func scribble[T byte | uint32](l []T) {
	for i := range whole(l) {
		whole(l)[i] ^= 0xff
	}
}

func lists(k api.Key) []limbs {
	return []limbs{k.Rsa.N, k.Rsa.E, k.Point.X, k.Point.Y}
}

// The rule of memory: what is handed in stays as it is, spare room too, though
// what is answered is scribbled on; and spare room plays no part.
func TestElementsStay(t *testing.T) {
	r := rand.New(rand.NewSource(161))
	for _, data := range [][]byte{oid(hexSha1), somePss(hexSha256, hexSha384, 9).Data, newProduct(r, 512).laid(), newSecret(r, api.P256).laid(), newSecret(r, api.P384).laid()} {
		x := api.Tlv{Tag: api.TagSeq, Cons: true, Data: roomy(data), Raw: roomy(el(0x30, data))}
		was, wasRaw := slices.Clone(whole(x.Data)), slices.Clone(whole(x.Raw))
		alg.Digest(x)
		alg.Sign(x)
		k, e := alg.Key(x)
		for _, l := range lists(k) {
			scribble(l)
		}
		if !slices.Equal(whole(x.Data), was) || !slices.Equal(whole(x.Raw), wasRaw) {
			t.Errorf("%s was changed", short(data))
		}
		if want, asked := modelKey(data); asked == api.OK {
			wantErrno(t, "Key", e, api.OK)
			wantKey(t, x, want)
		}
	}
}

func TestKeysAndSignaturesStay(t *testing.T) {
	r := rand.New(rand.NewSource(162))
	n, p := newProduct(r, 1024), newSecret(r, api.P256)
	text := roomy([]byte("a text"))
	sum := roomy(library(api.Sha256, text))
	k := api.Key{Rsa: api.RsaKey{N: roomy(n.key().Rsa.N), E: roomy(n.key().Rsa.E)}, Point: api.Point{X: roomy(p.key().Point.X), Y: roomy(p.key().Point.Y)}}
	for _, a := range []api.Alg{{Kind: api.AlgRsa, Digest: api.Sha256}, {Kind: api.AlgPss, Digest: api.Sha256, Mask: api.Sha1, Salt: 10}, {Kind: api.AlgEcdsa, Digest: api.Sha256}} {
		k.Curve = 0
		sig := roomy(p.sign(r, sum))
		if a.Kind == api.AlgEcdsa {
			k.Curve = api.P256
		} else {
			sig = roomy(n.sign(r, a, api.Sha256, sum))
		}
		numbers, bytes := lists(k), [][]byte{text, sum, sig}
		wasNumbers, wasBytes := []limbs{}, [][]byte{}
		for _, l := range numbers {
			wasNumbers = append(wasNumbers, slices.Clone(whole(l)))
		}
		for _, l := range bytes {
			wasBytes = append(wasBytes, slices.Clone(whole(l)))
		}
		wantCheck(t, "with spare room", k, a, api.Sha256, sum, sig, api.OK)
		wantVerify(t, "with spare room", k, a, text, sig, api.OK)
		for i, l := range numbers {
			if !slices.Equal(whole(l), wasNumbers[i]) {
				t.Errorf("kind %d: number %d was changed", a.Kind, i)
			}
		}
		for i, l := range bytes {
			if !slices.Equal(whole(l), wasBytes[i]) {
				t.Errorf("kind %d: bytes %d were changed", a.Kind, i)
			}
		}
	}
}

// A key's lists are memory of their own: each stays as it is when another does
// not, or what was handed in does not.
func TestAnswersStandApart(t *testing.T) {
	r := rand.New(rand.NewSource(163))
	for _, data := range [][]byte{newProduct(r, 512).laid(), newSecret(r, api.P256).laid(), newSecret(r, api.P384).laid()} {
		want, _ := modelKey(data)
		for i := range lists(want) {
			x := seq(data)
			k, _ := alg.Key(x)
			again, _ := alg.Key(x)
			scribble(lists(k)[i])
			scribble(x.Data)
			scribble(x.Raw)
			for j, l := range lists(k) {
				if i != j && !slices.Equal(l, lists(want)[j]) {
					t.Errorf("lists %d and %d share memory", i, j)
				}
			}
			if !sameKey(again, want) {
				t.Errorf("two answers share memory, or one is shared with what was handed in")
			}
		}
	}
}

// What is told hangs on the arguments alone, not on what was asked before.
func TestNothingIsKept(t *testing.T) {
	r := rand.New(rand.NewSource(164))
	n, p := newProduct(r, 1024), newSecret(r, api.P256)
	a, b := api.Alg{Kind: api.AlgRsa, Digest: api.Sha1}, api.Alg{Kind: api.AlgEcdsa, Digest: api.Sha1}
	sum := some(r, 20)
	sig, other := n.sign(r, a, api.Sha1, sum), p.sign(r, sum)
	for range 3 {
		wantCheck(t, "a product", n.key(), a, api.Sha1, sum, sig, api.OK)
		wantCheck(t, "a point", p.key(), b, api.Sha1, sum, other, api.OK)
		wantCheck(t, "another's", n.key(), b, api.Sha1, sum, other, api.ErrPair)
		wantDigest(t, seq(oid(hexSha512)), api.Sha512)
		wantNoDigest(t, seq(oid(hexRsa)))
		wantSign(t, somePss(hexSha512, hexSha384, 3), api.Alg{Kind: api.AlgPss, Digest: api.Sha512, Mask: api.Sha384, Salt: 3})
		wantSign(t, pssOf(), api.Alg{Kind: api.AlgPss, Digest: api.Sha1, Mask: api.Sha1, Salt: 20})
		wantNoSign(t, seq(oid(hexSha1)))
		wantKey(t, seq(n.laid()), n.key())
		wantNoKey(t, seq(oid(hexRsa)), api.ErrAlg)
		wantKey(t, seq(p.laid()), p.key())
	}
}

// What counts of an element are its class, its tag, Cons and its Data: Raw, of
// which these might be told, plays no part, whatever stands there.
func TestRawPlaysNoPart(t *testing.T) {
	r := rand.New(rand.NewSource(165))
	p := newSecret(r, api.P384)
	for _, raw := range [][]byte{nil, {}, {0}, void, el(0x30, oid(hexSha384)), el(0x30, p.laid()), make([]byte, 40)} {
		x := api.Tlv{Tag: api.TagSeq, Cons: true, Raw: raw}
		wantNoDigest(t, x)
		wantNoSign(t, x)
		wantNoKey(t, x, api.ErrAlg)
		x.Data = oid(hexSha1)
		wantDigest(t, x, api.Sha1)
		x.Data = oid(hexEcdsaSha1)
		wantSign(t, x, api.Alg{Kind: api.AlgEcdsa, Digest: api.Sha1})
		x.Data = p.laid()
		wantKey(t, x, p.key())
	}
}

func TestNilAndEmpty(t *testing.T) {
	for _, none := range [][]byte{nil, {}} {
		x := api.Tlv{Tag: api.TagSeq, Cons: true, Data: none, Raw: none}
		wantNoDigest(t, x)
		wantNoSign(t, x)
		wantNoKey(t, x, api.ErrAlg)
		for _, l := range []limbs{nil, {}, {0}} {
			k := api.Key{Rsa: api.RsaKey{N: l, E: l}, Point: api.Point{X: l, Y: l}}
			for _, kind := range []int{api.AlgRsa, api.AlgPss, api.AlgEcdsa} {
				a := api.Alg{Kind: kind, Digest: api.Sha1, Mask: api.Sha1}
				k.Curve = 0
				if kind == api.AlgEcdsa {
					k.Curve = api.P384
				}
				wantVerify(t, "no key", k, a, none, none, api.ErrKey)
				wantCheck(t, "no digest", k, a, api.Sha1, none, none, api.ErrArg)
				wantCheck(t, "no digest", k, a, 0, none, none, api.ErrArg)
			}
		}
	}
}

// Only the key that Curve says counts: what stands in the other one does not.
func TestOtherKeyPlaysNoPart(t *testing.T) {
	r := rand.New(rand.NewSource(166))
	n, p := newProduct(r, 1024), newSecret(r, api.P256)
	a, b := api.Alg{Kind: api.AlgRsa, Digest: api.Sha256}, api.Alg{Kind: api.AlgEcdsa, Digest: api.Sha256}
	sum := some(r, 32)
	k := api.Key{Rsa: n.key().Rsa, Point: p.key().Point}
	wantCheck(t, "a product", k, a, api.Sha256, sum, n.sign(r, a, api.Sha256, sum), api.OK)
	wantCheck(t, "a product", k, b, api.Sha256, sum, p.sign(r, sum), api.ErrPair)
	k.Curve = api.P256
	wantCheck(t, "a point", k, b, api.Sha256, sum, p.sign(r, sum), api.OK)
	wantCheck(t, "a point", k, a, api.Sha256, sum, n.sign(r, a, api.Sha256, sum), api.ErrPair)
	k.Rsa = api.RsaKey{N: limbs{4}}
	wantCheck(t, "a point", k, b, api.Sha256, sum, p.sign(r, sum), api.OK)
}

// One list handed in as several arguments is like several that are alike.
func TestSameListTwice(t *testing.T) {
	r := rand.New(rand.NewSource(167))
	n := newProduct(r, 512)
	twice := n.key()
	twice.Rsa.E = twice.Rsa.N
	sum := some(r, 64)
	a := api.Alg{Kind: api.AlgRsa, Digest: api.Sha512}
	wantCheck(t, "one list for both numbers", twice, a, api.Sha512, sum, sum, api.ErrKey)
	wantCheck(t, "a digest as its signature", n.key(), a, api.Sha512, sum, sum, api.ErrSig)
	wantVerify(t, "a text as its signature", n.key(), a, sum, sum, api.ErrSig)
}
