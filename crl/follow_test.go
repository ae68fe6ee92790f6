package crl_test

import (
	"bytes"
	"crypto"
	"crypto/ecdsa"
	"crypto/elliptic"
	chance "crypto/rand"
	"crypto/rsa"
	"crypto/x509"
	"crypto/x509/pkix"
	"math/big"
	"math/rand"
	"slices"
	"testing"
	"time"

	"chirograph/api"
	"chirograph/cert"
	"chirograph/crl"
	"chirograph/name"
)

// P13.5

func dated(sec int) []byte {
	return general(time.Unix(int64(sec), 0).UTC().Format("20060102150405Z"))
}

// drawnEntry is an entry by chance, and what it says.
func drawnEntry(r *rand.Rand) (b []byte, g api.Gone, unknown bool) {
	g.Serial = small(r.Int() >> r.Intn(63))[2:]
	g.At = r.Intn(4e9)
	var l [][]byte
	if r.Intn(2) == 0 {
		g.Reason = pick(r, 0, 1, 2, 3, 4, 5, 6, 8, 9, 10)
		l = append(l, pick(r, ext(21, reason(g.Reason)), must(21, reason(g.Reason))))
	}
	if r.Intn(3) == 0 {
		l = append(l, other(1))
	}
	if r.Intn(30) == 0 {
		unknown = true
		l = append(l, pick(r, other(2, yes), must(20, small(1)), must(35, seq())))
	}
	r.Shuffle(len(l), func(i, j int) { l[i], l[j] = l[j], l[i] })
	more := []byte{}
	if len(l) > 0 {
		more = seq(l...)
	}
	return seq(el(0x02, g.Serial), dated(g.At), more), g, unknown
}

// drawnLaid is a list by chance, and what it says, but for the signature.
func drawnLaid(r *rand.Rand) (laid, api.Crl) {
	c, told := plain(), plainCrl()
	who := pick(r, "a", "Root", "", "x y")
	c.in[issuer] = seq(el(0x31, seq(hx("06 03 55 04 0a"), el(0x13, []byte(who)))))
	told.Issuer = nameOf("2.5.4.10", who)
	told.This, told.Next = r.Intn(4e9), r.Intn(4e9)
	c.in[this], c.in[next] = dated(told.This), dated(told.Next)
	if r.Intn(3) == 0 {
		told.Next, told.Open, c.in[next] = 0, true, nil
	}
	var l, m [][]byte
	for range r.Intn(2) * r.Intn(20) {
		b, g, unknown := drawnEntry(r)
		l, told.Gone = append(l, b), append(told.Gone, g)
		told.Unknown = told.Unknown || unknown
	}
	if len(l) > 0 {
		c = c.listing(l...)
	}
	if r.Intn(2) == 0 {
		told.Aki = often(r.Intn(30), byte(r.Intn(256)))
		m = append(m, pick(r, ext(35, seq(el(0x80, told.Aki))), must(35, seq(el(0x80, told.Aki), void))))
	}
	if r.Intn(2) == 0 {
		m = append(m, pick(r, ext(20, small(r.Int())), must(20, small(r.Int()))))
	}
	if r.Intn(5) == 0 {
		told.Unknown = true
		m = append(m, pick(r, other(5, yes), must(21, reason(1)), must(28, seq())))
	}
	if len(m) > 0 {
		r.Shuffle(len(m), func(i, j int) { m[i], m[j] = m[j], m[i] })
		c = c.extended(m...)
	}
	return c, told
}

// What is laid is read as it was laid; what was signed is Signed by the
// signer's key, and by no other one; whatever is listed is found.
func TestLaidIsRead(t *testing.T) {
	r := rand.New(rand.NewSource(135))
	k, another := newProduct(r), newProduct(r)
	for range 300 {
		c, asked := drawnLaid(r)
		c = k.signed(c)
		asked.Raw, asked.Tbs, asked.Sig = c.bytes(), c.tbs(), k.sign(c.tbs())
		wantParse(t, "what was laid", c.bytes(), asked)
		got, _ := crl.Parse(c.bytes())
		wantSigned(t, "by the signer's key", got, k.key(), api.OK)
		wantSigned(t, "by another key", got, another.key(), api.ErrSig)
		for _, g := range asked.Gone {
			if found, ok := crl.Find(got, g.Serial); !ok || !bytes.Equal(found.Serial, g.Serial) {
				t.Errorf("%x is listed, and not found", g.Serial)
			}
		}
	}
}

// A list in which a byte is another one is none, or is not Signed any more.
func TestAnotherByte(t *testing.T) {
	r := rand.New(rand.NewSource(136))
	k := newProduct(r)
	b := k.signed(complete().extended(must(20, small(3)), ext(35, seq(hx("80 01 05"))))).bytes()
	was, e := crl.Parse(b)
	if e != api.OK || crl.Signed(was, k.key()) != api.OK {
		t.Fatalf("error %d", e)
	}
	read := 0
	for at := range b {
		for v := range 256 {
			changed := slices.Clone(b)
			changed[at] = byte(v)
			d, e := crl.Parse(changed)
			if byte(v) == b[at] || e != api.OK {
				continue
			}
			read++
			if bytes.Equal(d.Tbs, was.Tbs) && bytes.Equal(d.Sig, was.Sig) {
				t.Fatalf("byte %d may be %d as well", at, v)
			}
			if v%16 == 0 && crl.Signed(d, k.key()) == api.OK {
				t.Fatalf("byte %d may be %d as well, as it was signed", at, v)
			}
		}
	}
	if read < 1000 {
		t.Errorf("only %d were read", read)
	}
}

// libraryKeys are keys of both kinds, made anew.
func libraryKeys(t *testing.T) []crypto.Signer {
	t.Helper()
	k, err := rsa.GenerateKey(chance.Reader, 2048)
	if err != nil {
		t.Fatal(err)
	}
	l := []crypto.Signer{k}
	for _, c := range []elliptic.Curve{elliptic.P256(), elliptic.P384()} {
		p, err := ecdsa.GenerateKey(c, chance.Reader)
		if err != nil {
			t.Fatal(err)
		}
		l = append(l, p)
	}
	return l
}

// libraryIssuer is a certificate that may sign lists, made by Go's library.
func libraryIssuer(t *testing.T, k crypto.Signer) *x509.Certificate {
	t.Helper()
	c := &x509.Certificate{
		SerialNumber: big.NewInt(1), Subject: pkix.Name{Country: []string{"DE"}, CommonName: "b\u00e4r"}, SubjectKeyId: []byte{9, 8, 7},
		NotBefore: time.Unix(0, 0), NotAfter: time.Unix(4e9, 0), IsCA: true, BasicConstraintsValid: true, KeyUsage: x509.KeyUsageCertSign | x509.KeyUsageCRLSign,
	}
	raw, err := x509.CreateCertificate(chance.Reader, c, c, k.Public(), k)
	if err != nil {
		t.Fatal(err)
	}
	x, err := x509.ParseCertificate(raw)
	if err != nil {
		t.Fatal(err)
	}
	return x
}

// Lists that Go's library makes are read as it reads them, and Signed by the
// key of the certificate that issued them.
func TestLibraryLists(t *testing.T) {
	keys := libraryKeys(t)
	for i, k := range keys {
		ca := libraryIssuer(t, k)
		list := &x509.RevocationList{Number: new(big.Int).Lsh(big.NewInt(77), 100), ThisUpdate: time.Date(2024, 1, 2, 3, 4, 5, 0, time.UTC), NextUpdate: time.Date(2055, 6, 7, 8, 9, 10, 0, time.UTC)}
		for n := range 200 {
			list.RevokedCertificateEntries = append(list.RevokedCertificateEntries, x509.RevocationListEntry{
				SerialNumber: new(big.Int).Lsh(big.NewInt(int64(n+1)), uint(n%160)), RevocationTime: time.Unix(1500000000+int64(n)*86400*90, 0).UTC(), ReasonCode: []int{0, 1, 2, 3, 4, 5, 6, 8, 9, 10}[n%10],
			})
		}
		raw, err := x509.CreateRevocationList(chance.Reader, list, ca, k)
		if err != nil {
			t.Fatal(err)
		}
		x, err := x509.ParseRevocationList(raw)
		if err != nil {
			t.Fatal(err)
		}
		c := wantLibrary(t, x)
		issuer, _ := cert.Parse(ca.Raw)
		wantSigned(t, "by the issuer's key", c, issuer.Key, api.OK)
		o, _ := cert.Parse(libraryIssuer(t, keys[(i+1)%3]).Raw)
		if e := crl.Signed(c, o.Key); e != api.ErrSig && e != api.ErrPair {
			t.Errorf("signed by another key: error %d", e)
		}
		if !name.Same(c.Issuer, issuer.Subject) || !bytes.Equal(c.Aki, issuer.Ski) {
			t.Error("the issuer")
		}
	}
}

// wantLibrary holds what is read against what the library tells.
func wantLibrary(t *testing.T, x *x509.RevocationList) api.Crl {
	t.Helper()
	c, e := crl.Parse(x.Raw)
	if e != api.OK {
		t.Fatalf("Parse: error %d", e)
	}
	issuer, _ := name.Build(c.Issuer)
	if !bytes.Equal(issuer, x.RawIssuer) || !bytes.Equal(c.Raw, x.Raw) || !bytes.Equal(c.Tbs, x.RawTBSRevocationList) || !bytes.Equal(c.Sig, x.Signature) || !bytes.Equal(c.Aki, x.AuthorityKeyId) {
		t.Error("bytes")
	}
	if int64(c.This) != x.ThisUpdate.Unix() || int64(c.Next) != x.NextUpdate.Unix() || c.Open || c.Unknown || len(c.Gone) != len(x.RevokedCertificateEntries) {
		t.Fatal("times, entries")
	}
	for i, y := range x.RevokedCertificateEntries {
		g := c.Gone[i]
		if new(big.Int).SetBytes(g.Serial).Cmp(y.SerialNumber) != 0 || int64(g.At) != y.RevocationTime.Unix() || g.Reason != y.ReasonCode {
			t.Errorf("entry %d: %+v; wanted %+v", i, g, y)
		}
		if found, ok := crl.Find(c, g.Serial); !ok || !same(found, g) {
			t.Errorf("entry %d is not found", i)
		}
	}
	return c
}
