package alg_test

import (
	"math/big"
	"math/rand"
	"slices"
	"testing"

	"chirograph/alg"
	"chirograph/api"
	"chirograph/rsa"
)

// P11.5

func wantCheck(t *testing.T, what string, k api.Key, a api.Alg, by int, sum, sig []byte, asked api.Errno) {
	t.Helper()
	if e := alg.Check(k, a, by, sum, sig); e != asked {
		t.Errorf("%s: Check(curve %d, %v, %d, %d bytes): error %d; wanted %d", what, k.Curve, a, by, len(sum), e, asked)
	}
}

func wantVerify(t *testing.T, what string, k api.Key, a api.Alg, text, sig []byte, asked api.Errno) {
	t.Helper()
	if e := alg.Verify(k, a, text, sig); e != asked {
		t.Errorf("%s: Verify(curve %d, %v, %d bytes): error %d; wanted %d", what, k.Curve, a, len(text), e, asked)
	}
}

// both asks Check of a text's digest, and Verify of the text, which tell the
// same.
func both(t *testing.T, what string, k api.Key, a api.Alg, text, sig []byte, asked api.Errno) {
	t.Helper()
	wantCheck(t, what, k, a, a.Digest, library(a.Digest, text), sig, asked)
	wantVerify(t, what, k, a, text, sig, asked)
}

func TestCheckRsa(t *testing.T) {
	r := rand.New(rand.NewSource(141))
	k := newProduct(r, 1024)
	for _, d := range algs {
		text := some(r, 100)
		a := api.Alg{Kind: api.AlgRsa, Digest: d}
		sig := k.sign(r, a, d, library(d, text))
		both(t, "what was signed", k.key(), a, text, sig, api.OK)
		both(t, "another text", k.key(), a, text[1:], sig, api.ErrSig)
		both(t, "another signature", k.key(), a, text, sig[1:], api.ErrSig)
		both(t, "no signature", k.key(), a, text, nil, api.ErrSig)
		wantCheck(t, "no digest named", k.key(), api.Alg{Kind: api.AlgRsa}, d, library(d, text), sig, api.OK)
		wantCheck(t, "no digest named", k.key(), api.Alg{Kind: api.AlgRsa}, d, library(d, text[1:]), sig, api.ErrSig)
		a.Mask, a.Salt = 77, -5 // of which this kind knows nothing
		both(t, "with a mask and a salt", k.key(), a, text, sig, api.OK)
		both(t, "by a key that may not be", api.Key{}, a, text, sig, api.ErrKey)
		both(t, "in the other way", k.key(), api.Alg{Kind: api.AlgPss, Digest: d, Mask: d, Salt: 0}, text, sig, api.ErrSig)
	}
}

func TestCheckPss(t *testing.T) {
	r := rand.New(rand.NewSource(142))
	k := newProduct(r, 1025)
	for _, d := range algs {
		for _, mask := range algs {
			text := some(r, 70)
			a := api.Alg{Kind: api.AlgPss, Digest: d, Mask: mask, Salt: r.Intn(30)}
			sig := k.sign(r, a, d, library(d, text))
			both(t, "what was signed", k.key(), a, text, sig, api.OK)
			both(t, "another text", k.key(), a, text[1:], sig, api.ErrSig)
			for _, other := range algs {
				asked := api.ErrSig
				if other == mask {
					asked = api.OK
				}
				both(t, "another mask", k.key(), api.Alg{Kind: api.AlgPss, Digest: d, Mask: other, Salt: a.Salt}, text, sig, asked)
			}
			for _, salt := range []int{a.Salt + 1, a.Salt + 100, 1000, 1 << 40, 1<<63 - 1} {
				both(t, "another salt", k.key(), api.Alg{Kind: api.AlgPss, Digest: d, Mask: mask, Salt: salt}, text, sig, api.ErrSig)
			}
			both(t, "in the other way", k.key(), api.Alg{Kind: api.AlgRsa, Digest: d}, text, sig, api.ErrSig)
			both(t, "by a key that may not be", api.Key{}, a, text, sig, api.ErrKey)
		}
		// What VerifyPss tells of a mask and a salt that there are not.
		for _, mask := range noAlgs {
			both(t, "no mask", k.key(), api.Alg{Kind: api.AlgPss, Digest: d, Mask: mask}, nil, nil, api.ErrArg)
		}
		for _, salt := range []int{-1, -20, -1 << 63} {
			both(t, "no salt", k.key(), api.Alg{Kind: api.AlgPss, Digest: d, Mask: d, Salt: salt}, nil, nil, api.ErrArg)
		}
	}
}

func TestCheckEcdsa(t *testing.T) {
	r := rand.New(rand.NewSource(143))
	for _, c := range curves {
		k := newSecret(r, c)
		for _, d := range algs {
			text := some(r, 50)
			a := api.Alg{Kind: api.AlgEcdsa, Digest: d}
			sig := k.sign(r, library(d, text))
			both(t, "what was signed", k.key(), a, text, sig, api.OK)
			both(t, "another text", k.key(), a, text[1:], sig, api.ErrSig)
			a.Mask, a.Salt = 77, -5 // of which this kind knows nothing
			wantVerify(t, "with a mask and a salt", k.key(), a, text, sig, api.OK)
			both(t, "no signature", k.key(), a, text, nil, api.ErrSig)
			both(t, "by the far point", api.Key{Curve: c}, a, text, sig, api.ErrKey)
			both(t, "on the other curve", api.Key{Curve: 3 - c, Point: k.key().Point}, a, text, sig, api.ErrKey)
			for _, other := range []int{3, -1, 256 + c, 1<<32 + c, 1<<63 - 1, -1 << 63} {
				both(t, "on no curve", api.Key{Curve: other, Point: k.key().Point}, a, text, sig, api.ErrArg)
			}
		}
	}
}

// hands are ways and keys, good ones and others.
func hands(r *rand.Rand) (as []api.Alg, ks []api.Key) {
	for _, kind := range append([]int{api.AlgRsa, api.AlgPss, api.AlgEcdsa}, noKinds...) {
		for _, d := range append(slices.Clone(algs), noAlgs...) {
			as = append(as, api.Alg{Kind: kind, Digest: d, Mask: api.Sha1, Salt: 20})
		}
	}
	n := newProduct(r, 512).key()
	p := newSecret(r, api.P256).key()
	return as, []api.Key{{}, n, p, {Rsa: n.Rsa, Point: p.Point}, {Curve: api.P256, Rsa: n.Rsa}, {Curve: 9}, {Curve: -1, Rsa: n.Rsa, Point: p.Point}}
}

// firstFault is the error that stands first, of those that are told ahead of
// what a signature's layer tells.
func firstFault(k api.Key, a api.Alg, by int, sum []byte) api.Errno {
	switch {
	case by < 1 || by > 4 || len(sum) != len(library(by)):
		return api.ErrArg
	case a.Kind < 1 || a.Kind > 3 || a.Digest != by && (a.Kind != api.AlgRsa || a.Digest != 0):
		return api.ErrAlg
	case a.Kind == api.AlgEcdsa && k.Curve == 0 || a.Kind != api.AlgEcdsa && k.Curve != 0:
		return api.ErrPair
	}
	return api.OK
}

// Which error is the first, of all kinds, digests and keys.
func TestCheckFirstError(t *testing.T) {
	as, ks := hands(rand.New(rand.NewSource(144)))
	for _, a := range as {
		for _, k := range ks {
			for _, by := range append(slices.Clone(algs), noAlgs...) {
				for _, n := range []int{0, 1, 19, 20, 21, 32, 48, 63, 64, 65, 5000} {
					sum := make([]byte, n)
					asked := firstFault(k, a, by, sum)
					e := alg.Check(k, a, by, sum, nil)
					if asked != api.OK && e != asked || asked == api.OK && (e == api.OK || e == api.ErrAlg || e == api.ErrPair) {
						t.Errorf("Check(%v, %v, %d, %d bytes): error %d; wanted %d", k, a, by, n, e, asked)
					}
				}
			}
		}
	}
}

// ErrArg, too, is asked of the digest alone: of no bytes and no alg as well.
func TestCheckNoDigest(t *testing.T) {
	for _, by := range noAlgs {
		for _, kind := range []int{0, api.AlgRsa, api.AlgPss, api.AlgEcdsa} {
			for _, sum := range [][]byte{nil, {}, make([]byte, 20), make([]byte, 64)} {
				wantCheck(t, "no alg", api.Key{}, api.Alg{Kind: kind, Digest: by}, by, sum, nil, api.ErrArg)
				wantCheck(t, "no alg", api.Key{}, api.Alg{Kind: kind}, by, sum, nil, api.ErrArg)
			}
		}
	}
}

func TestVerifyFirstError(t *testing.T) {
	as, ks := hands(rand.New(rand.NewSource(145)))
	long := make([]byte, api.MaxTotal+1)
	for _, a := range as {
		for _, k := range ks {
			wantVerify(t, "too long", k, a, long, nil, api.ErrLong)
			asked := api.ErrAlg
			if a.Digest >= 1 && a.Digest <= 4 {
				asked = firstFault(k, a, a.Digest, library(a.Digest))
			}
			if asked != api.OK {
				wantVerify(t, "a fault", k, a, []byte("text"), nil, asked)
			}
		}
	}
}

// A text as long as may be; one longer is refused, though its digest is signed.
func TestVerifyLongest(t *testing.T) {
	r := rand.New(rand.NewSource(146))
	k := newProduct(r, 1024)
	text := make([]byte, api.MaxTotal+1)
	text[api.MaxTotal-1] = 1
	a := api.Alg{Kind: api.AlgRsa, Digest: api.Sha256}
	longest := text[:api.MaxTotal]
	wantVerify(t, "the longest", k.key(), a, longest, k.sign(r, a, api.Sha256, library(api.Sha256, longest)), api.OK)
	wantVerify(t, "one longer", k.key(), a, text, k.sign(r, a, api.Sha256, library(api.Sha256, text)), api.ErrLong)
	wantVerify(t, "none", k.key(), a, nil, k.sign(r, a, api.Sha256, library(api.Sha256)), api.OK)
	wantVerify(t, "no digest named", k.key(), api.Alg{Kind: api.AlgRsa}, nil, k.sign(r, a, api.Sha256, library(api.Sha256)), api.ErrAlg)
}

// What the layers below tell is told: of lists that are too long, too, and of
// keys that are none by another rule.
func TestCheckTellsWhatIsTold(t *testing.T) {
	r := rand.New(rand.NewSource(147))
	sum := some(r, 20)
	n := newProduct(r, 512)
	for _, k := range []api.RsaKey{{}, {N: list(n.n)}, {N: list(n.n), E: limbs{2}}, {N: append(list(n.n), make(limbs, api.MaxModulus)...), E: limbs{3}}, {N: list(new(big.Int).Sub(n.n, one)), E: limbs{3}}, n.key().Rsa} {
		for _, sig := range [][]byte{nil, make([]byte, 63), make([]byte, 64), some(r, 64), slices.Repeat([]byte{0xff}, 64), make([]byte, 9000)} {
			wantCheck(t, "as rsa.Verify", api.Key{Rsa: k}, api.Alg{Kind: api.AlgRsa, Digest: api.Sha1}, api.Sha1, sum, sig, rsa.Verify(k, api.Sha1, sum, sig))
			wantCheck(t, "as rsa.VerifyPss", api.Key{Rsa: k}, api.Alg{Kind: api.AlgPss, Digest: api.Sha1, Mask: api.Sha1, Salt: 9}, api.Sha1, sum, sig, rsa.VerifyPss(k, api.Sha1, api.Sha1, 9, sum, sig))
		}
	}
}
