package cert_test

import (
	"bytes"
	"math/rand"
	"testing"

	"chirograph/alg"
	"chirograph/api"
	"chirograph/cert"
	"chirograph/name"
)

// P12.4

func org(s string) [][]api.Atv {
	return [][]api.Atv{{{Type: "2.5.4.10", Tag: api.TagUtf8, Data: []byte(s)}}}
}

func TestOwn(t *testing.T) {
	for _, x := range []struct {
		issuer, subject [][]api.Atv
		own             bool
	}{
		{nil, nil, true}, {nil, [][]api.Atv{}, true}, {org("a"), org("a"), true}, {org("a"), org("b"), false}, {org("a"), nil, false}, {nil, org("a"), false},
		{org("ACME  Inc"), nameOf("2.5.4.10", " acme inc"), true}, {org("a"), nameOf("2.5.4.6", "a"), false},
		{append(org("a"), org("b")...), append(org("b"), org("a")...), false}, {append(org("a"), org("b")...), org("a"), false},
	} {
		if own := cert.Own(api.Cert{Issuer: x.issuer, Subject: x.subject}); own != x.own {
			t.Errorf("Own of %v, %v: %v", x.issuer, x.subject, own)
		}
	}
}

// Keys, serials and all else play no part, nor who signed.
func TestOwnByNamesAlone(t *testing.T) {
	c := plainCert()
	c.Ski, c.Aki = []byte{1}, []byte{2}
	if cert.Own(c) {
		t.Error("another issuer")
	}
	c.Issuer = c.Subject
	if !cert.Own(c) {
		t.Error("the same issuer")
	}
}

func TestIssues(t *testing.T) {
	names := [][][]api.Atv{nil, org("a"), org(" A "), org("b"), append(org("a"), org("b")...)}
	keys := [][]byte{nil, {}, {0}, {1}, {1, 2}, {1, 2, 3}, {2, 1}, make([]byte, 20)}
	for _, subject := range names {
		for _, issuer := range names {
			for _, ski := range keys {
				for _, aki := range keys {
					ca := api.Cert{Subject: subject, Issuer: org("root"), Ski: ski, Aki: []byte{7}}
					c := api.Cert{Subject: org("leaf"), Issuer: issuer, Ski: []byte{8}, Aki: aki}
					asked := name.Same(subject, issuer) && (len(ski) == 0 || len(aki) == 0 || bytes.Equal(ski, aki))
					if got := cert.Issues(ca, c); got != asked {
						t.Errorf("Issues of %v %x, %v %x: %v", subject, ski, issuer, aki, got)
					}
				}
			}
		}
	}
}

func TestIssuesTable(t *testing.T) {
	for _, x := range []struct {
		subject, issuer string
		ski, aki        string
		issues          bool
	}{
		{"a", "a", "", "", true}, {"a", "a", "01", "", true}, {"a", "a", "", "01", true}, {"a", "a", "01", "01", true}, {"a", "a", "01", "02", false}, {"a", "a", "01", "01 00", false}, {"a", "a", "01 00", "01", false},
		{"a", "A ", "01", "01", true}, {"a", "b", "01", "01", false}, {"a", "b", "", "", false},
	} {
		ca := api.Cert{Subject: org(x.subject), Ski: hx(x.ski)}
		c := api.Cert{Issuer: org(x.issuer), Aki: hx(x.aki)}
		if got := cert.Issues(ca, c); got != x.issues {
			t.Errorf("Issues of %+v: %v", x, got)
		}
	}
}

func wantSigned(t *testing.T, what string, c api.Cert, k api.Key, asked api.Errno) {
	t.Helper()
	if e := cert.Signed(c, k); e != asked {
		t.Errorf("%s: Signed: error %d; wanted %d", what, e, asked)
	}
	if e := alg.Verify(k, c.Way, c.Tbs, c.Sig); e != asked {
		t.Errorf("%s: Verify: error %d; wanted %d", what, e, asked)
	}
}

// Signed asks of the fields, whether or not a Parse told them: of Way, Tbs and
// Sig alone.
func TestSigned(t *testing.T) {
	r := rand.New(rand.NewSource(124))
	k, l := newProduct(r), newProduct(r)
	text := []byte("whatever was signed")
	c := api.Cert{Tbs: text, Way: api.Alg{Kind: api.AlgRsa, Digest: api.Sha1}, Sig: k.sign(text)}
	wantSigned(t, "as it was signed", c, k.key(), api.OK)
	wantSigned(t, "by another one", c, l.key(), api.ErrSig)
	d := c
	d.Raw, d.Serial, d.Key, d.Issuer, d.Unknown = []byte{1}, []byte{2}, l.key(), org("x"), true
	wantSigned(t, "with other fields", d, k.key(), api.OK)
	d = c
	d.Tbs = append([]byte(nil), text[1:]...)
	wantSigned(t, "another text", d, k.key(), api.ErrSig)
	d = c
	d.Sig = append([]byte{0}, c.Sig...)
	wantSigned(t, "another signature", d, k.key(), api.ErrSig)
	d = c
	d.Way.Digest = api.Sha256
	wantSigned(t, "another digest", d, k.key(), api.ErrSig)
	for _, way := range []api.Alg{{}, {Kind: api.AlgRsa}, {Kind: 4, Digest: api.Sha1}, {Kind: -1, Digest: api.Sha1}, {Kind: api.AlgRsa, Digest: 5}} {
		d.Way = way
		wantSigned(t, "no way", d, k.key(), api.ErrAlg)
	}
	d.Way = api.Alg{Kind: api.AlgEcdsa, Digest: api.Sha1}
	wantSigned(t, "a way for another kind of keys", d, k.key(), api.ErrPair)
	wantSigned(t, "no key", c, api.Key{}, api.ErrKey)
	wantSigned(t, "nothing", api.Cert{}, api.Key{}, api.ErrAlg)
	d = c
	d.Tbs = make([]byte, api.MaxTotal+1)
	wantSigned(t, "too long", d, k.key(), api.ErrLong)
}
