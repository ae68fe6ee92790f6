package alg_test

import (
	"crypto"
	goecdsa "crypto/ecdsa"
	chance "crypto/rand"
	gorsa "crypto/rsa"
	"crypto/x509"
	"math/big"
	"math/rand"
	"testing"

	"chirograph/alg"
	"chirograph/api"
	"chirograph/der"
)

// P11.6

// signer has a key, and the identifiers by which it signs.
type signer struct {
	key  api.Tlv
	kind int // AlgEcdsa, or another one
	sign func(a api.Alg, alg int, sum []byte) []byte
}

func signers(r *rand.Rand) []signer {
	var l []signer
	for range 2 {
		k := newProduct(r, 1024)
		l = append(l, signer{seq(k.laid()), api.AlgRsa, func(a api.Alg, alg int, sum []byte) []byte { return k.sign(r, a, alg, sum) }})
	}
	for _, c := range []int{api.P256, api.P256, api.P384} {
		k := newSecret(r, c)
		l = append(l, signer{seq(k.laid()), api.AlgEcdsa, func(a api.Alg, alg int, sum []byte) []byte { return k.sign(r, sum) }})
	}
	return l
}

// somePss says which digest, mask and salt of so many bytes.
func somePss(digits, mask string, salt byte) api.Tlv {
	return pssOf(el(0xa0, el(0x30, oid(digits), void)), el(0xa1, el(0x30, oid(hexMask), el(0x30, oid(mask), void))), []byte{0xa2, 3, 2, 1, salt})
}

// identifiers name ways to sign, one each, but for the first, which leaves open
// of which digest.
func identifiers() []api.Tlv {
	return []api.Tlv{seq(oid(hexRsa), void), seq(oid(hexRsaSha1), void), seq(oid(hexRsaSha256)), seq(oid(hexRsaSha384), void), seq(oid(hexRsaSha512), void),
		pssOf(), somePss(hexSha256, hexSha256, 32), somePss(hexSha256, hexSha1, 32), somePss(hexSha256, hexSha256, 31), somePss(hexSha512, hexSha512, 50), somePss(hexSha384, hexSha384, 32),
		seq(oid(hexEcdsaSha1)), seq(oid(hexEcdsaSha256)), seq(oid(hexEcdsaSha384)), seq(oid(hexEcdsaSha512))}
}

func readKey(t *testing.T, x api.Tlv) api.Key {
	t.Helper()
	k, e := alg.Key(x)
	if e != api.OK {
		t.Fatalf("Key(%s): error %d", short(x.Data), e)
	}
	return k
}

func readWay(t *testing.T, x api.Tlv) api.Alg {
	t.Helper()
	a, e := alg.Sign(x)
	if e != api.OK {
		t.Fatalf("Sign(%s): error %d", short(x.Data), e)
	}
	return a
}

// What was signed is verified by the key that signed it, under the identifiers
// that say so; by a key of another kind it is not asked for at all.
func TestSignedIsVerified(t *testing.T) {
	r := rand.New(rand.NewSource(151))
	all := signers(r)
	for i, s := range all {
		for _, x := range identifiers() {
			a := readWay(t, x)
			if (a.Kind == api.AlgEcdsa) != (s.kind == api.AlgEcdsa) || a.Digest == 0 {
				continue
			}
			text := some(r, 1+r.Intn(200))
			sig := s.sign(a, a.Digest, library(a.Digest, text))
			for j, other := range all {
				asked := api.ErrSig
				if i == j {
					asked = api.OK
				}
				if s.kind != other.kind {
					asked = api.ErrPair
				}
				wantVerify(t, "what was signed", readKey(t, other.key), a, text, sig, asked)
			}
			text[0]++
			wantVerify(t, "another text", readKey(t, s.key), a, text, sig, api.ErrSig)
		}
	}
}

// Under an identifier that says otherwise it is not verified.
func TestSignedOtherwiseIsNotVerified(t *testing.T) {
	r := rand.New(rand.NewSource(152))
	text := some(r, 40)
	for _, s := range signers(r) {
		k := readKey(t, s.key)
		for i, x := range identifiers() {
			a := readWay(t, x)
			if (a.Kind == api.AlgEcdsa) != (s.kind == api.AlgEcdsa) || a.Digest == 0 {
				continue
			}
			sum := library(a.Digest, text)
			sig := s.sign(a, a.Digest, sum)
			for j, y := range identifiers() {
				b := readWay(t, y)
				asked := api.ErrSig
				switch {
				case b.Digest == 0:
					asked = api.ErrAlg
				case (b.Kind == api.AlgEcdsa) != (s.kind == api.AlgEcdsa):
					asked = api.ErrPair
				case i == j:
					asked = api.OK
				}
				wantVerify(t, "signed in one way", k, b, text, sig, asked)
			}
			if a.Kind == api.AlgRsa {
				wantCheck(t, "no digest named", k, readWay(t, identifiers()[0]), a.Digest, sum, sig, api.OK)
			}
		}
	}
}

// libraryKeys are keys as Go's library has them, one of each kind and curve.
func libraryKeys(t *testing.T, r *rand.Rand) []crypto.Signer {
	t.Helper()
	n := newProduct(r, 2048)
	k := &gorsa.PrivateKey{PublicKey: gorsa.PublicKey{N: n.n, E: 65537}, D: n.d, Primes: []*big.Int{n.p, n.q}}
	k.Precompute()
	if err := k.Validate(); err != nil {
		t.Fatal(err)
	}
	l := []crypto.Signer{k}
	for _, c := range curves {
		d := newSecret(r, c).d
		p, err := goecdsa.ParseRawPrivateKey(libraryCurve(c), d.FillBytes(make([]byte, libraryCurve(c).Params().BitSize/8)))
		if err != nil {
			t.Fatal(err)
		}
		l = append(l, p)
	}
	return l
}

// Certificates that Go's library signs: their keys and ways are read, and what
// is signed is verified.
func TestLibraryCertificates(t *testing.T) {
	r := rand.New(rand.NewSource(153))
	keys := libraryKeys(t, r)
	ways := [][]x509.SignatureAlgorithm{
		{x509.SHA256WithRSA, x509.SHA384WithRSA, x509.SHA512WithRSA, x509.SHA256WithRSAPSS, x509.SHA384WithRSAPSS, x509.SHA512WithRSAPSS},
		{x509.ECDSAWithSHA256, x509.ECDSAWithSHA384, x509.ECDSAWithSHA512},
		{x509.ECDSAWithSHA256, x509.ECDSAWithSHA384, x509.ECDSAWithSHA512}}
	for i, k := range keys {
		for _, way := range ways[i] {
			template := &x509.Certificate{SerialNumber: big.NewInt(5), SignatureAlgorithm: way}
			raw, err := x509.CreateCertificate(chance.Reader, template, template, k.Public(), k)
			if err != nil {
				t.Fatal(err)
			}
			c, err := x509.ParseCertificate(raw)
			if err != nil {
				t.Fatal(err)
			}
			wantCertificate(t, way.String(), c)
		}
	}
}

func wantCertificate(t *testing.T, what string, c *x509.Certificate) {
	t.Helper()
	whole, _ := der.One(c.Raw)
	parts, _, _ := der.Split(whole.Data)
	info, _ := der.One(c.RawSubjectPublicKeyInfo)
	if len(parts) != 3 {
		t.Fatalf("%d parts", len(parts))
	}
	k, a := readKey(t, info), readWay(t, parts[1])
	wantVerify(t, what, k, a, c.RawTBSCertificate, c.Signature, api.OK)
	wantVerify(t, what, k, a, c.RawTBSCertificate[1:], c.Signature, api.ErrSig)
}
