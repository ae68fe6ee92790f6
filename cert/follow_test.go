package cert_test

import (
	"bytes"
	"crypto"
	"crypto/ecdsa"
	"crypto/elliptic"
	chance "crypto/rand"
	"crypto/rsa"
	"crypto/x509"
	"crypto/x509/pkix"
	"encoding/asn1"
	"math/big"
	"math/rand"
	"net"
	"net/url"
	"slices"
	"testing"
	"time"

	"chirograph/api"
	"chirograph/cert"
	"chirograph/name"
)

// P12.5

// drawnLaid is a certificate by chance, and what it says, but for the key, the
// way and the signature.
func drawnLaid(r *rand.Rand) (laid, api.Cert) {
	c, told := plain(), plainCert()
	for _, field := range []int{issuer, subject} {
		name, atvs := []byte{}, [][]api.Atv(nil)
		for range r.Intn(3) {
			s := pick(r, "a", "Root", "", "x y")
			name = append(name, el(0x31, seq(hx("06 03 55 04 0a"), el(0x13, []byte(s))))...)
			atvs = append(atvs, nameOf("2.5.4.10", s)...)
		}
		c.in[field] = seq(name)
		if field == issuer {
			told.Issuer = atvs
		} else {
			told.Subject = atvs
		}
	}
	told.Serial = small(r.Int() >> r.Intn(63))[2:]
	c.in[serial] = el(0x02, told.Serial)
	told.From, told.Until = r.Intn(4e9), r.Intn(4e9)
	c.in[times] = seq(dated(told.From), dated(told.Until))
	if r.Intn(2) == 0 {
		c.in[issuerBits] = el(0x81, []byte{1})
	}
	l := drawnExts(r, &told)
	if len(l) > 0 {
		r.Shuffle(len(l), func(i, j int) { l[i], l[j] = l[j], l[i] })
		c = c.extended(l...)
	}
	return c, told
}

func dated(sec int) []byte {
	return general(time.Unix(int64(sec), 0).UTC().Format("20060102150405Z"))
}

// drawnExts are extensions by chance; what they say is put into c.
func drawnExts(r *rand.Rand, c *api.Cert) (l [][]byte) {
	put := func(n byte, value []byte) bool {
		if r.Intn(2) == 0 {
			l = append(l, ext(n, value))
			return false
		}
		l = append(l, must(n, value))
		return true
	}
	if r.Intn(2) == 0 {
		c.Ca, c.Below = true, r.Intn(1001)
		put(19, seq(yes, small(c.Below)))
	}
	if r.Intn(2) == 0 {
		v := byte(r.Intn(256))
		c.Usage = 0
		for i := range 8 {
			c.Usage |= int(v>>(7-i)&1) << i
		}
		put(15, el(0x03, []byte{0, v}))
	}
	if r.Intn(2) == 0 {
		n := 1 + r.Intn(3)
		c.Eku = often(n, "1.2")
		c.EkuMust = put(37, seq(often(n, hx("06 01 2a"))...))
	}
	if r.Intn(2) == 0 {
		s := pick(r, "a", "b.example", "")
		c.Names = []api.Gen{{Kind: api.GenDns, Text: s}, {Kind: 8}}
		put(17, seq(el(0x82, []byte(s)), hx("88 01 2a")))
	}
	if r.Intn(2) == 0 {
		c.Permitted, c.Excluded = []api.Gen{{Kind: api.GenMail, Text: "a"}}, []api.Gen{{Kind: api.GenIp, Ip: often(8, byte(3))}}
		put(30, seq(el(0xa0, seq(hx("81 01 61"))), el(0xa1, seq(el(0x87, often(8, byte(3)))))))
	}
	if r.Intn(2) == 0 {
		c.Ski = often(r.Intn(30), byte(r.Intn(256)))
		put(14, el(0x04, c.Ski))
	}
	if r.Intn(2) == 0 {
		c.Aki = often(r.Intn(30), byte(r.Intn(256)))
		put(35, seq(el(0x80, c.Aki)))
	}
	if r.Intn(4) == 0 {
		c.Unknown = true
		l = append(l, other(5, yes))
	}
	return l
}

// What is laid is read as it was laid; what was signed is Signed by the
// signer's key, and by no other one.
func TestLaidIsRead(t *testing.T) {
	r := rand.New(rand.NewSource(125))
	k, other := newProduct(r), newProduct(r)
	for range 300 {
		c, asked := drawnLaid(r)
		c = k.signed(c.with(key, other.laid()))
		asked.Raw, asked.Tbs, asked.Sig, asked.Key = c.bytes(), c.tbs(), k.sign(c.tbs()), other.key()
		wantParse(t, "what was laid", c.bytes(), asked)
		got, _ := cert.Parse(c.bytes())
		wantSigned(t, "by the signer's key", got, k.key(), api.OK)
		wantSigned(t, "by its own key", got, other.key(), api.ErrSig)
	}
}

// A certificate in which a byte is another one has not the same Tbs and Sig;
// it is none, or it is not Signed any more.
func TestAnotherByte(t *testing.T) {
	r := rand.New(rand.NewSource(126))
	k := newProduct(r)
	c := k.signed(complete().extended(must(19, seq(yes, small(3))), ext(17, seq(hx("82 01 61"))), must(37, seq(hx("06 01 2a"))), ext(14, hx("04 01 05")), ext(35, seq(hx("80 01 05")))))
	b := c.bytes()
	was, e := cert.Parse(b)
	if e != api.OK || cert.Signed(was, k.key()) != api.OK {
		t.Fatalf("error %d", e)
	}
	read := 0
	for at := range b {
		for v := range 256 {
			if byte(v) == b[at] {
				continue
			}
			changed := slices.Clone(b)
			changed[at] = byte(v)
			d, e := cert.Parse(changed)
			if e != api.OK {
				continue
			}
			read++
			if bytes.Equal(d.Tbs, was.Tbs) && bytes.Equal(d.Sig, was.Sig) {
				t.Fatalf("byte %d may be %d as well", at, v)
			}
			if v%16 == 0 && cert.Signed(d, k.key()) == api.OK {
				t.Fatalf("byte %d may be %d as well, as it was signed", at, v)
			}
		}
	}
	if read < 1000 {
		t.Errorf("only %d were read", read)
	}
}

func named(arcs ...uint64) x509.OID {
	o, err := x509.OIDFromInts(arcs)
	if err != nil {
		panic(err)
	}
	return o
}

// template is a certificate of which Go's library says nearly all that may be.
func template(ca bool) *x509.Certificate {
	link, _ := url.Parse("http://a.example/b")
	_, net4, _ := net.ParseCIDR("10.1.0.0/16")
	_, net6, _ := net.ParseCIDR("2001:db8::/32")
	c := &x509.Certificate{
		SerialNumber: big.NewInt(0x1234567890), NotBefore: time.Date(2020, 1, 2, 3, 4, 5, 0, time.UTC), NotAfter: time.Date(2055, 6, 7, 8, 9, 10, 0, time.UTC),
		Subject:  pkix.Name{Country: []string{"DE"}, Organization: []string{"Acme"}, CommonName: "b\u00e4r"},
		KeyUsage: x509.KeyUsageDigitalSignature | x509.KeyUsageContentCommitment | x509.KeyUsageDecipherOnly, ExtKeyUsage: []x509.ExtKeyUsage{x509.ExtKeyUsageTimeStamping, x509.ExtKeyUsageAny},
		UnknownExtKeyUsage: []asn1.ObjectIdentifier{{1, 2, 3, 4}},
		DNSNames:           []string{"a.example", "*.b.example"}, EmailAddresses: []string{"x@a.example"}, IPAddresses: []net.IP{net.IPv4(1, 2, 3, 4).To4(), net.ParseIP("::1")}, URIs: []*url.URL{link},
		Policies: []x509.OID{named(1, 2, 3), named(2, 5, 29, 32, 0)}, SubjectKeyId: []byte{9, 8, 7}, BasicConstraintsValid: true,
	}
	if ca {
		c.IsCA, c.MaxPathLen, c.KeyUsage = true, 5, x509.KeyUsageCertSign|x509.KeyUsageCRLSign
		c.PermittedDNSDomains, c.ExcludedDNSDomains = []string{"example", ".b.example"}, []string{"c.example"}
		c.PermittedEmailAddresses, c.ExcludedEmailAddresses = []string{"a.example"}, []string{"x@y"}
		c.PermittedIPRanges, c.ExcludedIPRanges = []*net.IPNet{net4}, []*net.IPNet{net6}
		c.ExtKeyUsage, c.UnknownExtKeyUsage = nil, nil
	}
	return c
}

// libraryKeys are keys of both kinds, made anew.
func libraryKeys(t *testing.T) []crypto.Signer {
	t.Helper()
	k, err := rsa.GenerateKey(chance.Reader, 2048)
	if err != nil {
		t.Fatal(err)
	}
	l := []crypto.Signer{k}
	for _, c := range []elliptic.Curve{elliptic.P256(), elliptic.P384()} {
		p, err := ecdsa.GenerateKey(c, chance.Reader)
		if err != nil {
			t.Fatal(err)
		}
		l = append(l, p)
	}
	return l
}

func created(t *testing.T, c, by *x509.Certificate, k, signer crypto.Signer) *x509.Certificate {
	t.Helper()
	raw, err := x509.CreateCertificate(chance.Reader, c, by, k.Public(), signer)
	if err != nil {
		t.Fatal(err)
	}
	x, err := x509.ParseCertificate(raw)
	if err != nil {
		t.Fatal(err)
	}
	return x
}

// Certificates that Go's library makes are read as it reads them.
func TestLibraryCertificates(t *testing.T) {
	keys := libraryKeys(t)
	for i, k := range keys {
		root := created(t, template(true), template(true), k, k)
		low := template(false)
		low.Subject = pkix.Name{CommonName: "leaf"}
		leaf := created(t, low, root, keys[(i+1)%3], k)
		a, b := wantLibrary(t, root), wantLibrary(t, leaf)
		if !cert.Own(a) || cert.Own(b) || !cert.Issues(a, a) || !cert.Issues(a, b) || cert.Issues(b, a) || cert.Issues(b, b) {
			t.Error("who issued whom")
		}
		for _, c := range []api.Cert{a, b} {
			wantSigned(t, "by the root's key", c, a.Key, api.OK)
			if e := cert.Signed(c, b.Key); e != api.ErrSig && e != api.ErrPair {
				t.Errorf("signed by the leaf's key: error %d", e)
			}
		}
		if !a.Ca || a.Below != 5 || a.Usage != api.UseCertSign|api.UseCrlSign || len(a.Eku) != 0 {
			t.Error("the root's constraints, usage")
		}
		if b.Ca || b.Below != -1 || b.Usage != api.UseSign|api.UseContent|1<<8 || !slices.Equal(b.Eku, []string{"1.3.6.1.5.5.7.3.8", api.AnyUse, "1.2.3.4"}) || b.EkuMust {
			t.Errorf("the leaf's constraints, usage: %d, %v", b.Usage, b.Eku)
		}
	}
}

// wantLibrary holds what is read against what the library tells.
func wantLibrary(t *testing.T, x *x509.Certificate) api.Cert {
	t.Helper()
	c, e := cert.Parse(x.Raw)
	if e != api.OK {
		t.Fatalf("Parse: error %d", e)
	}
	subject, _ := name.Build(c.Subject)
	issuer, _ := name.Build(c.Issuer)
	serial := new(big.Int).SetBytes(c.Serial)
	if !bytes.Equal(subject, x.RawSubject) || !bytes.Equal(issuer, x.RawIssuer) || serial.Cmp(x.SerialNumber) != 0 {
		t.Error("names, serial")
	}
	if !bytes.Equal(c.Raw, x.Raw) || !bytes.Equal(c.Tbs, x.RawTBSCertificate) || !bytes.Equal(c.Sig, x.Signature) || !bytes.Equal(c.Ski, x.SubjectKeyId) || !bytes.Equal(c.Aki, x.AuthorityKeyId) {
		t.Error("bytes")
	}
	if int64(c.From) != x.NotBefore.Unix() || int64(c.Until) != x.NotAfter.Unix() || c.Ca != x.IsCA || c.Unknown || c.Require != -1 || c.Inhibit != -1 {
		t.Error("times, numbers")
	}
	var policies []string
	for _, o := range x.Policies {
		policies = append(policies, o.String())
	}
	if !slices.Equal(c.Policies, policies) || len(policies) != 2 {
		t.Error("policies")
	}
	wantLibraryNames(t, c, x)
	return c
}

func wantLibraryNames(t *testing.T, c api.Cert, x *x509.Certificate) {
	t.Helper()
	names := api.Cert{}
	for _, s := range x.DNSNames {
		names.Names = append(names.Names, api.Gen{Kind: api.GenDns, Text: s})
	}
	for _, s := range x.EmailAddresses {
		names.Names = append(names.Names, api.Gen{Kind: api.GenMail, Text: s})
	}
	for _, ip := range x.IPAddresses {
		names.Names = append(names.Names, api.Gen{Kind: api.GenIp, Ip: ip})
	}
	names.Names = append(names.Names, api.Gen{Kind: 6})
	names.Permitted = bases(x.PermittedDNSDomains, x.PermittedIPRanges, x.PermittedEmailAddresses)
	names.Excluded = bases(x.ExcludedDNSDomains, x.ExcludedIPRanges, x.ExcludedEmailAddresses)
	if !same(c.Names, names.Names) || !same(c.Permitted, names.Permitted) || !same(c.Excluded, names.Excluded) {
		t.Errorf("names: %+v, %+v, %+v; wanted %+v", c.Names, c.Permitted, c.Excluded, names)
	}
}

func bases(hosts []string, nets []*net.IPNet, mails []string) (l []api.Gen) {
	for _, s := range hosts {
		l = append(l, api.Gen{Kind: api.GenDns, Text: s})
	}
	for _, n := range nets {
		l = append(l, api.Gen{Kind: api.GenIp, Ip: slices.Concat([]byte(n.IP), []byte(n.Mask))})
	}
	for _, s := range mails {
		l = append(l, api.Gen{Kind: api.GenMail, Text: s})
	}
	return l
}
