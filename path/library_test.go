package path_test

import (
	"bytes"
	"crypto/ecdsa"
	"crypto/elliptic"
	chance "crypto/rand"
	"crypto/x509"
	"crypto/x509/pkix"
	"math/big"
	"math/rand"
	"slices"
	"strconv"
	"testing"
	"time"

	"chirograph/api"
	"chirograph/cert"
	"chirograph/crl"
	"chirograph/path"
)

// Certificates and lists that Go's library makes, read, and what it says of them.

var day = time.Date(2024, 1, 1, 0, 0, 0, 0, time.UTC)

// authority is a name, a key, and a certificate by each that signed it.
type authority struct {
	name  string
	key   *ecdsa.PrivateKey
	certs []*x509.Certificate
}

func newAuthority(t *testing.T, name string) *authority {
	t.Helper()
	key, err := ecdsa.GenerateKey(elliptic.P256(), chance.Reader)
	if err != nil {
		t.Fatal(err)
	}
	return &authority{name: name, key: key}
}

// certify has by sign a certificate for a.
func (a *authority) certify(t *testing.T, by *authority, serial int, x x509.Certificate) *x509.Certificate {
	t.Helper()
	x.SerialNumber, x.Subject = big.NewInt(int64(serial)), pkix.Name{CommonName: a.name}
	above := &x509.Certificate{Subject: pkix.Name{CommonName: by.name}}
	raw, err := x509.CreateCertificate(chance.Reader, &x, above, a.key.Public(), by.key)
	if err != nil {
		t.Fatal(err)
	}
	made, err := x509.ParseCertificate(raw)
	if err != nil {
		t.Fatal(err)
	}
	a.certs = append(a.certs, made)
	return made
}

// usual is what is said by one that may issue.
func usual() x509.Certificate {
	return x509.Certificate{
		NotBefore: day, NotAfter: day.AddDate(1, 0, 0), IsCA: true, BasicConstraintsValid: true, MaxPathLen: -1,
		KeyUsage: x509.KeyUsageCertSign | x509.KeyUsageCRLSign | x509.KeyUsageDigitalSignature,
	}
}

// drawnSaid says something that may be wrong, now and then.
func drawnSaid(r *rand.Rand) x509.Certificate {
	x := usual()
	switch r.Intn(12) {
	case 0:
		x.NotAfter = day.AddDate(0, 0, r.Intn(3))
	case 1:
		x.NotBefore = day.AddDate(0, 0, r.Intn(3))
	case 2:
		x.IsCA = false
		x.KeyUsage = x509.KeyUsageDigitalSignature
	case 3, 4, 5:
		x.MaxPathLen = r.Intn(3)
		x.MaxPathLenZero = true
	case 6:
		x.KeyUsage = x509.KeyUsageDigitalSignature
	case 7:
		x.PermittedDNSDomains = []string{pick(r, "example", "a.example", "other")}
	case 8:
		x.ExcludedDNSDomains = []string{pick(r, "b.example", "a.example", "other")}
	}
	return x
}

func parsed(t *testing.T, l ...*x509.Certificate) (out []api.Cert) {
	t.Helper()
	for _, x := range l {
		c, e := cert.Parse(x.Raw)
		if e != api.OK {
			t.Fatalf("Parse: error %d", e)
		}
		out = append(out, c)
	}
	return out
}

// Of certificates that sign one another just those chains are accepted of which
// Go's library says so. (It takes none in which one stands twice by its name and
// key, though by two certificates.)
func TestAgainstLibrary(t *testing.T) {
	r := rand.New(rand.NewSource(172))
	seen := map[bool]int{}
	several := 0
	for range 60 {
		var all []*authority
		for i := range 5 {
			all = append(all, newAuthority(t, "authority "+strconv.Itoa(i)))
		}
		roots, rest := x509.NewCertPool(), x509.NewCertPool()
		var anchors, others []*x509.Certificate
		for i, a := range all[:2] {
			x := a.certify(t, a, 1+i, usual())
			roots.AddCert(x)
			anchors = append(anchors, x)
		}
		for i := range 6 {
			by, to := r.Intn(5), 1+r.Intn(4)
			if by != to {
				x := all[to].certify(t, all[by], 10+i, drawnSaid(r))
				rest.AddCert(x)
				others = append(others, x)
			}
		}
		for i := range 4 {
			leaf := usual()
			leaf.IsCA, leaf.KeyUsage = false, x509.KeyUsageDigitalSignature
			leaf.DNSNames = []string{pick(r, "a.example", "b.example", "c.a.example")}
			leaf.NotAfter = day.AddDate(0, 0, 1+r.Intn(9))
			x := newAuthority(t, "leaf").certify(t, all[1+r.Intn(4)], 20+i, leaf)
			at := day.AddDate(0, 0, 1)
			want, err := x.Verify(x509.VerifyOptions{Roots: roots, Intermediates: rest, CurrentTime: at, KeyUsages: []x509.ExtKeyUsage{x509.ExtKeyUsageAny}})
			got := accepted(t, x, anchors, others, int(at.Unix()))
			if !slices.Equal(got, rows(want)) {
				t.Fatalf("accepted %q; the library %q, %v", got, rows(want), err)
			}
			seen[err == nil]++
			if len(got) > 1 {
				several++
			}
		}
	}
	if seen[true] < 40 || seen[false] < 40 || several < 10 {
		t.Errorf("%d were accepted, %d not; %d by several chains", seen[true], seen[false], several)
	}
}

// accepted are the chains without one twice that Check accepts, told by serials;
// Validate tells whether there are any, of all.
func accepted(t *testing.T, leaf *x509.Certificate, anchors, others []*x509.Certificate, at int) (out []string) {
	t.Helper()
	l, up, rest := parsed(t, leaf)[0], parsed(t, anchors...), parsed(t, others...)
	chains, e := path.Chains(l, up, rest)
	if e != api.OK {
		t.Fatalf("error %d", e)
	}
	ask, good := api.Ask{At: at, Now: at}, false
	for _, row := range chains {
		all := []*x509.Certificate{anchors[row[0]]}
		var chain []api.Cert
		for _, i := range row[1:] {
			all, chain = append(all, others[i]), append(chain, rest[i])
		}
		if path.Check(up[row[0]], append(chain, l), nil, ask) == api.Accept {
			good = true
			if !twice(all) {
				all = append(all, leaf)
				slices.Reverse(all)
				out = append(out, rows([][]*x509.Certificate{all})...)
			}
		}
	}
	if n, _ := path.Validate(l, up, rest, nil, ask); (n == api.Accept) != good {
		t.Errorf("Validate: %d, of %q", n, out)
	}
	slices.Sort(out)
	return out
}

// twice: has one name two certificates?
func twice(l []*x509.Certificate) bool {
	seen := map[string]bool{}
	for _, x := range l {
		if seen[x.Subject.CommonName] {
			return true
		}
		seen[x.Subject.CommonName] = true
	}
	return false
}

func rows(l [][]*x509.Certificate) (out []string) {
	for _, row := range l {
		s := ""
		for _, x := range row {
			s += x.SerialNumber.String() + " "
		}
		out = append(out, s)
	}
	slices.Sort(out)
	return out
}

// Lists of the library, read, say of a leaf and of those above it what was listed.
func TestLibraryLists(t *testing.T) {
	r, i := newAuthority(t, "root"), newAuthority(t, "inter")
	r.certify(t, r, 1, usual())
	i.certify(t, r, 2, usual())
	leaf := usual()
	leaf.IsCA = false
	l := newAuthority(t, "leaf").certify(t, i, 3, leaf)
	listed := func(by *authority, reason int, serials ...int64) api.Crl {
		x := &x509.RevocationList{Number: big.NewInt(1), ThisUpdate: day, NextUpdate: day.AddDate(0, 1, 0)}
		for _, n := range serials {
			x.RevokedCertificateEntries = append(x.RevokedCertificateEntries, x509.RevocationListEntry{SerialNumber: big.NewInt(n), RevocationTime: day.AddDate(0, 0, 5), ReasonCode: reason})
		}
		issuer := *by.certs[0]
		issuer.SubjectKeyId = []byte{1}
		raw, err := x509.CreateRevocationList(chance.Reader, x, &issuer, by.key)
		if err != nil {
			t.Fatal(err)
		}
		c, e := crl.Parse(raw)
		if e != api.OK || !bytes.Equal(c.Raw, raw) {
			t.Fatalf("error %d", e)
		}
		return c
	}
	at := func(days int) int { return int(day.AddDate(0, 0, days).Unix()) }
	for _, x := range []struct {
		crls []api.Crl
		ask  api.Ask
		want int
	}{
		{nil, api.Ask{At: at(6), Now: at(6)}, api.Accept},
		{nil, api.Ask{At: at(6), Now: at(6), Hard: true}, api.PathStatus},
		{crls(listed(r, 0, 7), listed(i, 0, 8, 9)), api.Ask{At: at(6), Now: at(6), Hard: true}, api.Accept},
		{crls(listed(r, 0, 7)), api.Ask{At: at(6), Now: at(6), Hard: true}, api.PathStatus},
		{crls(listed(r, 0, 2)), api.Ask{At: at(6), Now: at(6)}, api.PathRevoked},
		{crls(listed(r, 0, 3), listed(i, 0, 2)), api.Ask{At: at(6), Now: at(6), Hard: true}, api.Accept},
		{crls(listed(r, 0, 7), listed(i, 1, 9, 3)), api.Ask{At: at(6), Now: at(6), Hard: true}, api.PathRevoked},
		{crls(listed(i, 4, 3)), api.Ask{At: at(4), Now: at(6), Late: []int{4}}, api.Accept},
		{crls(listed(i, 4, 3)), api.Ask{At: at(5), Now: at(6), Late: []int{4}}, api.PathRevoked},
		{crls(listed(i, 1, 3)), api.Ask{At: at(4), Now: at(6), Late: []int{4}}, api.PathRevoked},
		{crls(listed(i, 1, 3)), api.Ask{At: at(6), Now: at(32)}, api.Accept},
	} {
		want := []int{0, 0}
		if x.want != api.Accept {
			want = nil
		}
		wantValidate(t, "lists", parsed(t, l)[0], parsed(t, r.certs...), parsed(t, i.certs...), x.crls, x.ask, x.want, want...)
	}
}
