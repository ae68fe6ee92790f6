package ecdsa_test

import (
	"crypto"
	stdlib "crypto/ecdsa"
	"crypto/sha1"
	"crypto/sha256"
	"crypto/sha512"
	"math/big"
	"math/rand"
	"slices"
	"testing"

	"chirograph/api"
	"chirograph/ecdsa"
)

// P10.3

// Signatures of "sample" that are printed in RFC 6979, A.2.5 and A.2.6.
func TestVerifyPrinted(t *testing.T) {
	one := sha1.Sum([]byte("sample"))
	two := sha256.Sum256([]byte("sample"))
	three := sha512.Sum384([]byte("sample"))
	five := sha512.Sum512([]byte("sample"))
	p := point(hexed("60FED4BA255A9D31C961EB74C6356D68C049B8923B61FA6CE669622E60F29FB6"), hexed("7903FE1008B8BC99A41AE9E95628BC64F2F1B20C2D7E9F5177A3C294D4462299"))
	q := point(
		hexed("EC3A4E415B4E19A4568618029F427FA5DA9A8BC4AE92E02E06AAE5286B300C64DEF8F0EA9055866064A254515480BC13"),
		hexed("8015D9B72D7D57244EA8EF9AC0C621896708A59367F9DFB9F54CA84B3F1C9DB1288B231C3AE0D4FE7344FD2533264720"))
	for _, x := range []struct {
		c    int
		p    api.Point
		sum  []byte
		r, s string
	}{
		{api.P256, p, one[:], "61340C88C3AAEBEB4F6D667F672CA9759A6CCAA9FA8811313039EE4A35471D32", "6D7F147DAC089441BB2E2FE8F7A3FA264B9C475098FDCF6E00D7C996E1B8B7EB"},
		{api.P256, p, two[:], "EFD48B2AACB6A8FD1140DD9CD45E81D69D2C877B56AAF991C34D0EA84EAF3716", "F7CB1C942D657C41D436C7A1B6E29F65F3E900DBB9AFF4064DC4AB2F843ACDA8"},
		{api.P256, p, three[:], "0EAFEA039B20E9B42309FB1D89E213057CBF973DC0CFC8F129EDDDC800EF7719", "4861F0491E6998B9455193E34E7B0D284DDD7149A74B95B9261F13ABDE940954"},
		{api.P256, p, five[:], "8496A60B5E9B47C825488827E0495B0E3FA109EC4568FD3F8D1097678EB97F00", "2362AB1ADBE2B8ADF9CB9EDAB740EA6049C028114F2460F96554F61FAE3302FE"},
		{api.P384, q, one[:], "EC748D839243D6FBEF4FC5C4859A7DFFD7F3ABDDF72014540C16D73309834FA37B9BA002899F6FDA3A4A9386790D4EB2", "A3BCFA947BEEF4732BF247AC17F71676CB31A847B9FF0CBC9C9ED4C1A5B3FACF26F49CA031D4857570CCB5CA4424A443"},
		{api.P384, q, two[:], "21B13D1E013C7FA1392D03C5F99AF8B30C570C6F98D4EA8E354B63A21D3DAA33BDE1E888E63355D92FA2B3C36D8FB2CD", "F3AA443FB107745BF4BD77CB3891674632068A10CA67E3D45DB2266FA7D1FEEBEFDC63ECCD1AC42EC0CB8668A4FA0AB0"},
		{api.P384, q, three[:], "94EDBB92A5ECB8AAD4736E56C691916B3F88140666CE9FA73D64C4EA95AD133C81A648152E44ACF96E36DD1E80FABE46", "99EF4AEB15F178CEA1FE40DB2603138F130E740A19624526203B6351D0A3A94FA329C145786E679E7B82C71A38628AC8"},
		{api.P384, q, five[:], "ED0959D5880AB2D869AE7F6C2915C6D60F96507F9CB3E047C0046861DA4A799CFE30F35CC900056D7C99CD7882433709", "512C8CCEEE3890A84058CE1E22DBC2198F42323CE8ACA9135329F03C068E5112DC7CC3EF3446DEFCEB01A45C2667FDD5"},
	} {
		wantVerify(t, "as printed", x.c, x.p, x.sum, laid(hexed(x.r), hexed(x.s)), api.OK)
		wantVerify(t, "s for r", x.c, x.p, x.sum, laid(hexed(x.s), hexed(x.r)), api.ErrSig)
		wantVerify(t, "another digest", x.c, x.p, append([]byte{x.sum[0] ^ 1}, x.sum[1:]...), laid(hexed(x.r), hexed(x.s)), api.ErrSig)
	}
}

// publicOf is a key of Go's library.
func publicOf(c int, p api.Point) *stdlib.PublicKey {
	return &stdlib.PublicKey{Curve: library(c), X: value(p.X), Y: value(p.Y)}
}

func TestVerifyWhatTheLibrarySigned(t *testing.T) {
	r := rand.New(rand.NewSource(105))
	for _, c := range curves {
		for range 10 {
			d := factor(r, c)
			p := base(c, d)
			secret := &stdlib.PrivateKey{PublicKey: *publicOf(c, p), D: d}
			for _, h := range []crypto.Hash{crypto.SHA1, crypto.SHA256, crypto.SHA384, crypto.SHA512} {
				sum := some(r, h.Size())
				sig, err := secret.Sign(nil, sum, h)
				if err != nil {
					t.Fatal(err)
				}
				wantVerify(t, "the library's", c, p, sum, sig, api.OK)
			}
		}
	}
}

// All bits of a signature, of the digest and of the key: what is changed is
// right where Go's library says so.
func TestVerifyOfOtherBits(t *testing.T) {
	r := rand.New(rand.NewSource(106))
	for _, c := range curves {
		d := factor(r, c)
		p, sum := base(c, d), some(r, size(c)+8)
		sig := laid(sign(c, d, factor(r, c), sum))
		wantVerify(t, "what was signed", c, p, sum, sig, api.OK)
		step := 1 + 4*(c-api.P256) // the greater curve takes longer
		for i := 0; i < 8*len(sig); i += step {
			other := slices.Clone(sig)
			other[i/8] ^= 0x80 >> (i % 8)
			asked := api.ErrSig
			if stdlib.VerifyASN1(publicOf(c, p), sum, other) {
				asked = api.OK
			}
			wantVerify(t, "another signature", c, p, sum, other, asked)
		}
		for i := 0; i < 8*len(sum); i += 3 * step {
			other := slices.Clone(sum)
			other[i/8] ^= 0x80 >> (i % 8)
			asked := api.ErrSig
			if i >= 8*size(c) {
				asked = api.OK // these bytes do not count
			}
			wantVerify(t, "another digest", c, p, other, sig, asked)
		}
		for i := range 32 * len(p.X) {
			for _, l := range []int{0, 1} {
				q := api.Point{X: slices.Clone(p.X), Y: slices.Clone(p.Y)}
				[]limbs{q.X, q.Y}[l][i/32] ^= 1 << (i % 32)
				wantVerify(t, "another key", c, q, sum, sig, api.ErrKey)
			}
		}
		wantVerify(t, "the other side's key", c, negated(c, p), sum, sig, api.ErrSig)
		wantVerify(t, "the base", c, base(c, one), sum, sig, api.ErrSig)
	}
}

// Key's error stands ahead of all that is wrong with a signature.
func TestVerifyWithoutAKey(t *testing.T) {
	for _, c := range curves {
		g := base(c, one)
		sum := make([]byte, size(c))
		right := laid(value(g.X), value(g.X))
		sigs := [][]byte{right, nil, hx("30 00"), hx("30 06 02 01 00 02 01 00"), hx("30 06 02 01 01 02 01 80"), make([]byte, 100)}
		wantVerify(t, "with a key", c, g, sum, right, api.OK)
		for _, sig := range sigs {
			for _, p := range noKeys(c) {
				wantVerify(t, "without a key", c, p, sum, sig, api.ErrKey)
			}
			for _, no := range noCurves {
				wantVerify(t, "without a curve", no, g, sum, sig, api.ErrArg)
				wantVerify(t, "without a curve", no, api.Point{}, nil, sig, api.ErrArg)
			}
		}
	}
}

// Whatever Parse does not take is no signature, and no other error is told.
func TestVerifyOfNoSignature(t *testing.T) {
	r := rand.New(rand.NewSource(107))
	for _, c := range curves {
		d := factor(r, c)
		p, sum := base(c, d), some(r, 32)
		x, y := sign(c, d, factor(r, c), sum)
		sig := laid(x, y)
		wantVerify(t, "what was signed", c, p, sum, sig, api.OK)
		for n := range sig {
			wantVerify(t, "cut", c, p, sum, sig[:n], api.ErrSig)
			wantVerify(t, "cut", c, p, sum, sig[n+1:], api.ErrSig)
		}
		a, b := integer(x), integer(y)
		wantVerify(t, "laid by hand", c, p, sum, el(0x30, a, b), api.OK)
		for _, other := range [][]byte{
			slices.Concat(sig, []byte{0}), slices.Concat(sig, hx("05 00")), slices.Concat(sig, sig), slices.Concat([]byte{0}, sig),
			el(0x31, a, b), el(0x10, a, b), el(0xb0, a, b), el(0x30, a), el(0x30, b), el(0x30), el(0x30, a, b, a), el(0x30, a, b, hx("05 00")), el(0x30, el(0x30, a, b)),
			el(0x30, append([]byte{0x22}, a[1:]...), b), el(0x30, a, append([]byte{10}, b[1:]...)), el(0x30, el(2, []byte{0}, a[2:]), b), el(0x30, a, el(2, []byte{0}, b[2:])),
			slices.Concat(hx("30 80"), a, b, hx("00 00")), slices.Concat([]byte{0x30, 0x82, 0, byte(len(a) + len(b))}, a, b),
			make([]byte, api.MaxTotal+1), el(0x30, make([]byte, 3000)), el(0x30, slices.Repeat(hx("05 00"), 70000)),
			slices.Concat(sumOf(c, x), sumOf(c, y)), // the numbers alone
		} {
			wantVerify(t, "laid otherwise", c, p, sum, other, api.ErrSig)
		}
	}
}

// Neither number may be 0, or not below the order, whatever it is modulo it.
func TestVerifyOfNumbersThatMayNotBe(t *testing.T) {
	r := rand.New(rand.NewSource(108))
	for _, c := range curves {
		n, zero := order(c), new(big.Int)
		d := factor(r, c)
		p, sum := base(c, d), some(r, 32)
		x, y := sign(c, d, factor(r, c), sum)
		wrong := []*big.Int{zero, n, new(big.Int).Add(n, one), new(big.Int).Lsh(n, 1), new(big.Int).Mul(n, n), prime(c), new(big.Int).Lsh(one, uint(8*size(c))), value(full(api.MaxLimbs)), big.NewInt(-1), new(big.Int).Neg(n)}
		for _, v := range wrong {
			wantVerify(t, "r", c, p, sum, laid(v, y), api.ErrSig)
			wantVerify(t, "s", c, p, sum, laid(x, v), api.ErrSig)
			for _, w := range wrong {
				wantVerify(t, "both", c, p, sum, laid(v, w), api.ErrSig)
			}
		}
		for _, k := range []*big.Int{n, new(big.Int).Neg(n), new(big.Int).Mul(n, n), new(big.Int).Lsh(n, 1000)} {
			wantVerify(t, "r and the order", c, p, sum, laid(new(big.Int).Add(x, k), y), api.ErrSig)
			wantVerify(t, "s and the order", c, p, sum, laid(x, new(big.Int).Add(y, k)), api.ErrSig)
		}
		wantVerify(t, "what was signed", c, p, sum, laid(x, y), api.OK)
		wantVerify(t, "r negated", c, p, sum, laid(new(big.Int).Sub(n, x), y), api.ErrSig)
	}
}

// crafted is a key, a digest and the numbers for which Mix of u and v is just
// at; no secret number is needed for it.
func crafted(c int, at api.Point, u, v *big.Int) (p api.Point, sum []byte, r, s *big.Int) {
	less := at
	if u.Sign() > 0 {
		less = plus(c, at, negated(c, base(c, u)))
	}
	p = times(c, inverse(c, v), less)
	r = mod(c, value(at.X))
	s = mulMod(c, r, inverse(c, v))
	return p, sumOf(c, mulMod(c, u, s)), r, s
}

// X may be the order or above: then r is what is left of it, and X is no r.
func TestVerifyWhereXIsAboveTheOrder(t *testing.T) {
	chance := rand.New(rand.NewSource(109))
	for _, c := range curves {
		met := 0
		for i := int64(1); met < 8; i++ {
			x := new(big.Int).Add(order(c), big.NewInt(i))
			if i%2 == 0 {
				x.Sub(prime(c), big.NewInt(i))
			}
			at, ok := lifted(c, x)
			if !ok {
				continue
			}
			met++
			p, sum, r, s := crafted(c, at, factor(chance, c), factor(chance, c))
			wantVerify(t, "what is left of X", c, p, sum, laid(r, s), api.OK)
			wantVerify(t, "X", c, p, sum, laid(x, s), api.ErrSig)
			if !stdlib.VerifyASN1(publicOf(c, p), sum, laid(r, s)) {
				t.Errorf("curve %d: the library takes another X than %x", c, x)
			}
		}
	}
}

// Points at the edges: a small X, and those whose X is alike modulo the order
// alone.
func TestVerifyWhereXIsAtAnEdge(t *testing.T) {
	chance := rand.New(rand.NewSource(110))
	for _, c := range curves {
		for i := int64(1); i < 12; i++ {
			for _, x := range []*big.Int{big.NewInt(i), new(big.Int).Sub(order(c), big.NewInt(i))} {
				if at, ok := lifted(c, x); ok {
					p, sum, r, s := crafted(c, at, factor(chance, c), factor(chance, c))
					wantVerify(t, "a small X, or one right below the order", c, p, sum, laid(r, s), api.OK)
					wantVerify(t, "and the order", c, p, sum, laid(new(big.Int).Add(r, order(c)), s), api.ErrSig)
				}
			}
		}
	}
}

// Factors at the edges: u is 0, u and v are 1, or the order less 1.
func TestVerifyOfFactorsAtEdges(t *testing.T) {
	chance := rand.New(rand.NewSource(111))
	for _, c := range curves {
		top := new(big.Int).Sub(order(c), one)
		for _, u := range []*big.Int{new(big.Int), one, big.NewInt(2), top, factor(chance, c)} {
			for _, v := range []*big.Int{one, big.NewInt(2), top, factor(chance, c)} {
				at := base(c, factor(chance, c))
				p, sum, r, s := crafted(c, at, u, v)
				wantVerify(t, "factors at edges", c, p, sum, laid(r, s), api.OK)
				wantVerify(t, "another r", c, p, sum, laid(mod(c, new(big.Int).Add(r, one)), s), api.ErrSig)
			}
		}
	}
}

// Mix is the far point: no r is right then.
func TestVerifyOfTheFarPoint(t *testing.T) {
	chance := rand.New(rand.NewSource(112))
	for _, c := range curves {
		for range 10 {
			d, r, s := factor(chance, c), factor(chance, c), factor(chance, c)
			sum := sumOf(c, mod(c, new(big.Int).Neg(new(big.Int).Mul(r, d))))
			wantVerify(t, "the far point", c, base(c, d), sum, laid(r, s), api.ErrSig)
			for _, zero := range [][]byte{nil, make([]byte, size(c)), sumOf(c, order(c))} {
				wantVerify(t, "the far point, and r is its X", c, base(c, d), zero, laid(new(big.Int), s), api.ErrSig)
				wantVerify(t, "the far point, and r is its X", c, base(c, d), zero, laid(order(c), s), api.ErrSig)
			}
		}
	}
}

// Both parts of Mix are alike, so that it doubles in the end.
func TestVerifyWherePartsAreAlike(t *testing.T) {
	chance := rand.New(rand.NewSource(113))
	for _, c := range curves {
		for range 5 {
			half, v := factor(chance, c), factor(chance, c)
			at := base(c, mod(c, new(big.Int).Lsh(half, 1)))
			p, sum, r, s := crafted(c, at, half, v)
			wantVerify(t, "parts that are alike", c, p, sum, laid(r, s), api.OK)
		}
	}
}

// A digest whose number is 0, or the order, or above it, counts modulo it.
func TestVerifyOfNumbersAtTheOrder(t *testing.T) {
	r := rand.New(rand.NewSource(114))
	for _, c := range curves {
		d := factor(r, c)
		p := base(c, d)
		x, y := sign(c, d, factor(r, c), nil)
		for _, sum := range [][]byte{nil, {}, {0}, make([]byte, 20), make([]byte, size(c)), make([]byte, 100), append(make([]byte, size(c)), some(r, 9)...), sumOf(c, order(c))} {
			wantVerify(t, "of 0", c, p, sum, laid(x, y), api.OK)
		}
		wantVerify(t, "of 1", c, p, []byte{1}, laid(x, y), api.ErrSig)
		x, y = sign(c, d, factor(r, c), []byte{5})
		for _, sum := range [][]byte{{5}, {0, 0, 5}, sumOf(c, big.NewInt(5)), append(sumOf(c, new(big.Int).Add(order(c), big.NewInt(5))), 1, 2, 3)} {
			wantVerify(t, "of 5", c, p, sum, laid(x, y), api.OK)
		}
		wantVerify(t, "of 5 with a nought behind it", c, p, []byte{5, 0}, laid(x, y), api.ErrSig)
		all := slices.Repeat([]byte{0xff}, size(c))
		x, y = sign(c, d, factor(r, c), all)
		wantVerify(t, "all bits", c, p, all, laid(x, y), api.OK)
	}
}

// A key's lists may have limbs 0 at their ends, however many.
func TestVerifyByLongLists(t *testing.T) {
	r := rand.New(rand.NewSource(115))
	for _, c := range curves {
		d := factor(r, c)
		sum := some(r, 48)
		sig := laid(sign(c, d, factor(r, c), sum))
		for _, n := range []int{13, 64, 65, 512, 513, 3000} {
			wantVerify(t, "by long lists", c, long(base(c, d), n), sum, sig, api.OK)
		}
	}
}

// P10.4

func TestSignedIsVerified(t *testing.T) {
	chance := rand.New(rand.NewSource(116))
	for _, c := range curves {
		for i := range 40 {
			d, k := factor(chance, c), factor(chance, c)
			if i < 4 {
				d = []*big.Int{one, big.NewInt(2), new(big.Int).Sub(order(c), one), k}[i]
			}
			p, sum := base(c, d), some(chance, []int{20, 32, 48, 64, chance.Intn(100)}[i%5])
			r, s := sign(c, d, k, sum)
			for _, v := range []*big.Int{s, new(big.Int).Sub(order(c), s)} {
				sig, e := ecdsa.Build(list(r), list(v))
				wantErrno(t, "Build", e, api.OK)
				wantVerify(t, "what was signed", c, p, sum, sig, api.OK)
				wantVerify(t, "on the other curve", 3-c, p, sum, sig, api.ErrKey)
				wantVerify(t, "by another key", c, base(c, factor(chance, c)), sum, sig, api.ErrSig)
			}
			if len(sum) > 0 && !stdlib.VerifyASN1(publicOf(c, p), sum, laid(r, s)) {
				t.Error("the library takes no such signature")
			}
		}
	}
}

// The numbers 1 as secret and as the one used once: the base is the key, and r.
func TestVerifyByTheBase(t *testing.T) {
	for _, c := range curves {
		g := base(c, one)
		for i := range int64(20) {
			s := new(big.Int).Add(value(g.X), big.NewInt(i))
			wantVerify(t, "by the base", c, g, sumOf(c, big.NewInt(i)), laid(value(g.X), s), api.OK)
			wantVerify(t, "by the base", c, g, sumOf(c, big.NewInt(i+1)), laid(value(g.X), s), api.ErrSig)
		}
	}
}
