package realm_test

import (
	"crypto/ecdsa"
	"crypto/elliptic"
	chance "crypto/rand"
	"crypto/x509"
	"crypto/x509/pkix"
	"encoding/asn1"
	"math/big"
	"math/rand"
	"net"
	"testing"
	"time"

	"chirograph/api"
	"chirograph/cert"
	"chirograph/realm"
)

var day = time.Date(2024, 1, 1, 0, 0, 0, 0, time.UTC)

// issued is a certificate that Go's library makes, and reads.
func issued(t *testing.T, c, by *x509.Certificate, k *ecdsa.PrivateKey) *x509.Certificate {
	t.Helper()
	c.SerialNumber, c.NotBefore, c.NotAfter = big.NewInt(1), day, day.AddDate(1, 0, 0)
	raw, err := x509.CreateCertificate(chance.Reader, c, by, k.Public(), k)
	if err != nil {
		t.Fatal(err)
	}
	x, err := x509.ParseCertificate(raw)
	if err != nil {
		t.Fatal(err)
	}
	return x
}

func parsed(t *testing.T, x *x509.Certificate) api.Cert {
	t.Helper()
	c, e := cert.Parse(x.Raw)
	if e != api.OK {
		t.Fatalf("Parse: error %d", e)
	}
	return c
}

func newKey(t *testing.T) *ecdsa.PrivateKey {
	t.Helper()
	k, err := ecdsa.GenerateKey(elliptic.P256(), chance.Reader)
	if err != nil {
		t.Fatal(err)
	}
	return k
}

func drawnLibraryHost(r *rand.Rand) string {
	return pick(r, "", "x.", "X.y.", "y.") + pick(r, "a.example", "A.example", "b.example", "ab.example", "example")
}

func drawnLibraryNet(r *rand.Rand) *net.IPNet {
	a := net.IP{10, byte(r.Intn(3)), byte(r.Intn(2)), byte(r.Intn(2))}
	return &net.IPNet{IP: a, Mask: net.CIDRMask(pick(r, 8, 16, 24, 31, 32), 32)}
}

func hosts(r *rand.Rand, most int, points bool) (l []string) {
	for range r.Intn(most + 1) {
		s := drawnLibraryHost(r)
		if points && r.Intn(3) == 0 {
			s = "." + s
		}
		l = append(l, s)
	}
	return l
}

func nets(r *rand.Rand, most int) (l []*net.IPNet) {
	for range r.Intn(most + 1) {
		l = append(l, drawnLibraryNet(r))
	}
	return l
}

func addresses(r *rand.Rand, most int) (l []net.IP) {
	for _, n := range nets(r, most) {
		l = append(l, n.IP)
	}
	return l
}

// P14.4, P14.5: of hosts and addresses of certificates that are read, just those
// are allowed that Go's library allows below the same bounds.
func TestAllowedAgainstLibrary(t *testing.T) {
	r := rand.New(rand.NewSource(149))
	k := newKey(t)
	seen := map[bool]int{}
	for range 400 {
		ca := &x509.Certificate{Subject: pkix.Name{CommonName: "root"}, IsCA: true, BasicConstraintsValid: true, KeyUsage: x509.KeyUsageCertSign}
		ca.PermittedDNSDomains, ca.ExcludedDNSDomains = hosts(r, 3, true), hosts(r, 1, true)
		ca.PermittedIPRanges, ca.ExcludedIPRanges = nets(r, 3), nets(r, 1)
		root := issued(t, ca, ca, k)
		leaf := issued(t, &x509.Certificate{Subject: pkix.Name{CommonName: "leaf"}, DNSNames: hosts(r, 2, false), IPAddresses: addresses(r, 1)}, root, k)
		roots := x509.NewCertPool()
		roots.AddCert(root)
		_, err := leaf.Verify(x509.VerifyOptions{Roots: roots, CurrentTime: day, KeyUsages: []x509.ExtKeyUsage{x509.ExtKeyUsageAny}})
		bound := parsed(t, root)
		wantAllowed(t, realm.Names(parsed(t, leaf)), bound.Permitted, bound.Excluded, err == nil)
		seen[err == nil]++
		if t.Failed() {
			return
		}
	}
	if seen[true] < 40 || seen[false] < 40 {
		t.Errorf("only %d were allowed, %d not", seen[true], seen[false])
	}
}

// P14.5: what a certificate that is read has as names.
func TestLibraryNames(t *testing.T) {
	k := newKey(t)
	mailType := asn1.ObjectIdentifier{1, 2, 840, 113549, 1, 9, 1}
	subject := pkix.Name{CommonName: "leaf", ExtraNames: []pkix.AttributeTypeAndValue{{Type: mailType, Value: asn1.RawValue{Tag: api.TagIa5, Bytes: []byte("x@y")}}}}
	x := &x509.Certificate{Subject: subject, DNSNames: []string{"a.example"}, IPAddresses: []net.IP{{1, 2, 3, 4}}}
	c := parsed(t, issued(t, x, x, k))
	wantNames(t, "an address in the subject", c, dir(c.Subject...), dns("a.example"), ip("01 02 03 04"), mail("x@y"))
	if len(c.Subject) != 2 {
		t.Errorf("%d sets", len(c.Subject))
	}
	x.EmailAddresses = []string{"q@Z"}
	c = parsed(t, issued(t, x, x, k))
	wantNames(t, "an address in the names", c, dir(c.Subject...), dns("a.example"), mail("q@Z"), ip("01 02 03 04"))
	x.Subject, x.EmailAddresses = pkix.Name{}, nil
	c = parsed(t, issued(t, x, x, k))
	wantNames(t, "no subject", c, dns("a.example"), ip("01 02 03 04"))
}
