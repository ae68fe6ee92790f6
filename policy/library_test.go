package policy_test

import (
	"crypto/ecdsa"
	"crypto/elliptic"
	chance "crypto/rand"
	"crypto/x509"
	"crypto/x509/pkix"
	"encoding/asn1"
	"math/big"
	"math/rand"
	"slices"
	"testing"
	"time"

	"chirograph/api"
	"chirograph/cert"
	"chirograph/policy"
)

var day = time.Date(2024, 1, 1, 0, 0, 0, 0, time.UTC)

// issuer is a certificate that Go's library makes, and its key.
type issuer struct {
	cert *x509.Certificate
	key  *ecdsa.PrivateKey
}

// issue makes one below by; below nil, one that is its own issuer's.
func issue(t *testing.T, by *issuer, x *x509.Certificate) *issuer {
	t.Helper()
	key, err := ecdsa.GenerateKey(elliptic.P256(), chance.Reader)
	if err != nil {
		t.Fatal(err)
	}
	x.SerialNumber, x.NotBefore, x.NotAfter = big.NewInt(1), day, day.AddDate(1, 0, 0)
	x.IsCA, x.BasicConstraintsValid, x.KeyUsage = true, true, x509.KeyUsageCertSign|x509.KeyUsageDigitalSignature
	if by == nil {
		by = &issuer{x, key}
	}
	raw, err := x509.CreateCertificate(chance.Reader, x, by.cert, key.Public(), by.key)
	if err != nil {
		t.Fatal(err)
	}
	made, err := x509.ParseCertificate(raw)
	if err != nil {
		t.Fatal(err)
	}
	return &issuer{made, key}
}

func oids(t *testing.T, l []string) (out []x509.OID) {
	t.Helper()
	for _, s := range l {
		o, err := x509.ParseOID(s)
		if err != nil {
			t.Fatal(err)
		}
		out = append(out, o)
	}
	return out
}

// bounds are the extensions that say Require and Inhibit, where these are from 0
// on.
func bounds(require, inhibit int) (l []pkix.Extension) {
	if require >= 0 {
		l = append(l, pkix.Extension{Id: asn1.ObjectIdentifier{2, 5, 29, 36}, Critical: true, Value: []byte{0x30, 3, 0x80, 1, byte(require)}})
	}
	if inhibit >= 0 {
		l = append(l, pkix.Extension{Id: asn1.ObjectIdentifier{2, 5, 29, 54}, Critical: true, Value: []byte{2, 1, byte(inhibit)}})
	}
	return l
}

func drawnSome(r *rand.Rand, most int, of ...string) []string {
	r.Shuffle(len(of), func(i, j int) { of[i], of[j] = of[j], of[i] })
	return of[:r.Intn(most+1)]
}

// drawnIssuers is a chain, the anchor ahead; some are their own issuers'.
func drawnIssuers(t *testing.T, r *rand.Rand, n int) []*issuer {
	t.Helper()
	l := []*issuer{issue(t, nil, &x509.Certificate{Subject: pkix.Name{CommonName: "a"}})}
	for range n {
		by := l[len(l)-1]
		x := &x509.Certificate{Subject: pkix.Name{CommonName: by.cert.Subject.CommonName + "a"}}
		if r.Intn(3) == 0 {
			x.Subject = by.cert.Subject
		}
		said := drawnSome(r, 3, each, "1.2.3", "1.2.4", "2.25.1")
		if r.Intn(3) > 0 && !slices.Contains(said, each) {
			said = append(said[:len(said):len(said)], each)
		}
		x.Policies = oids(t, said)
		x.ExtraExtensions = bounds(pick(r, -1, -1, -1, 0, 1, 2), pick(r, -1, -1, -1, 0, 1, 2))
		l = append(l, issue(t, by, x))
	}
	return l
}

func parsedChain(t *testing.T, l []*issuer) (out []api.Cert) {
	t.Helper()
	for _, x := range l {
		c, e := cert.Parse(x.cert.Raw)
		if e != api.OK {
			t.Fatalf("Parse: error %d", e)
		}
		out = append(out, c)
	}
	return out
}

// P15.4: of chains of certificates that are read, just those have a policy that is
// asked for, or need none, that Go's library takes.
func TestRunAgainstLibrary(t *testing.T) {
	r := rand.New(rand.NewSource(159))
	seen := map[bool]int{}
	for range 400 {
		l := drawnIssuers(t, r, 1+r.Intn(4))
		roots, rest := x509.NewCertPool(), x509.NewCertPool()
		roots.AddCert(l[0].cert)
		for _, x := range l[1:] {
			rest.AddCert(x.cert)
		}
		read, leaf := parsedChain(t, l[1:]), l[len(l)-1].cert
		for _, user := range [][]string{nil, {each}, {"1.2.3"}, {"1.2.4", "2.25.2"}, {"2.25.1", "1.2.3"}} {
			_, err := leaf.Verify(x509.VerifyOptions{Roots: roots, Intermediates: rest, CurrentTime: day, KeyUsages: []x509.ExtKeyUsage{x509.ExtKeyUsageAny}, CertificatePolicies: oids(t, user)})
			got, ok := policy.Run(read, user, false, false)
			if ok != (err == nil) {
				t.Fatalf("Run(%s, %q): %q, %v; the library: %v", shown(read...), user, got, ok, err)
			}
			seen[ok]++
		}
	}
	if seen[true] < 300 || seen[false] < 300 {
		t.Errorf("only %d were true, %d false", seen[true], seen[false])
	}
}
