package realm_test

import (
	"math/rand"
	"testing"

	"chirograph/api"
)

// P14.5: the subject, the names, the subject's addresses.
func TestNames(t *testing.T) {
	subject := row{{cn("a")}, {post("x@y")}}
	wantNames(t, "nothing", api.Cert{})
	wantNames(t, "a subject", api.Cert{Subject: row{{cn("a")}}}, dir(set{cn("a")}))
	wantNames(t, "names", api.Cert{Names: gens(dns("a"), ip("01"))}, dns("a"), ip("01"))
	wantNames(t, "an address in the subject", api.Cert{Subject: subject}, dir(subject...), mail("x@y"))
	wantNames(t, "names, too", api.Cert{Subject: subject, Names: gens(dns("a"), dir(set{cn("b")}))}, dir(subject...), dns("a"), dir(set{cn("b")}), mail("x@y"))
	wantNames(t, "an address in the names", api.Cert{Subject: subject, Names: gens(dns("a"), mail("z@y"))}, dir(subject...), dns("a"), mail("z@y"))
	wantNames(t, "an address ahead", api.Cert{Subject: subject, Names: gens(mail("z@y"), dns("a"))}, dir(subject...), mail("z@y"), dns("a"))
	wantNames(t, "an empty one", api.Cert{Subject: subject, Names: gens(mail(""))}, dir(subject...), mail(""))
	wantNames(t, "the same one", api.Cert{Subject: subject, Names: gens(mail("x@y"), mail("x@y"))}, dir(subject...), mail("x@y"), mail("x@y"))
}

// P14.5: the names are told as they are, in their order, of whatever kind,
// whatever stands in them, as often as they stand there.
func TestNamesAsTheyAre(t *testing.T) {
	all := gens(api.Gen{Kind: 6}, api.Gen{}, api.Gen{Kind: -3, Text: "x@y", Ip: []byte{1, 2}, Dir: row{{}, {cn("a")}}}, dns(""), dns("B"), dns("\xff"), ip("01 02 03"), dir(), dir(set{}), dns("B"), api.Gen{Kind: 8, Text: "mail@y"})
	wantNames(t, "without a subject", api.Cert{Names: all}, all...)
	subject := row{{post("A@B")}}
	asked := append(gens(dir(subject...)), all...)
	wantNames(t, "with a subject", api.Cert{Subject: subject, Names: all}, append(asked, mail("A@B"))...)
	with := append(all[:len(all):len(all)], mail("q"))
	wantNames(t, "with an address", api.Cert{Subject: subject, Names: with}, append(asked, mail("q"))...)
	many := often(1000, dns("a"))
	wantNames(t, "many", api.Cert{Names: many}, many...)
}

// P14.5: a subject has a set, or it is none.
func TestNamesSets(t *testing.T) {
	wantNames(t, "no set", api.Cert{Subject: row{}})
	wantNames(t, "an empty set", api.Cert{Subject: row{{}}}, dir(set{}))
	wantNames(t, "two", api.Cert{Subject: row{nil, {post("a")}}}, dir(nil, set{post("a")}), mail("a"))
	wantNames(t, "an issuer", api.Cert{Issuer: row{{post("a")}}, Permitted: gens(dns("a")), Excluded: gens(dns("b"))})
}

// P14.5: set by set, each part of that Type.
func TestNamesOrder(t *testing.T) {
	subject := row{{post("3@x"), cn("a"), post("1@x")}, {cn("b")}, {}, {post("2@x"), post("2@x")}, {post("")}, {post("no address")}}
	wantNames(t, "in their order", api.Cert{Subject: subject}, dir(subject...), mail("3@x"), mail("1@x"), mail("2@x"), mail("2@x"), mail(""), mail("no address"))
	many := often(64, often(64, post("x@y")))
	wantNames(t, "many", api.Cert{Subject: many}, append(gens(dir(many...)), often(64*64, mail("x@y"))...)...)
}

// P14.5: of just that Type.
func TestNamesTypes(t *testing.T) {
	for _, kind := range []string{"", "2.5.4.3", "1.2.840.113549.1.9.2", "1.2.840.113549.1.9", "1.2.840.113549.1.9.1.1", "1.2.840.113549.1.9.11", " 1.2.840.113549.1.9.1", "1.2.840.113549.1.9.01", "E"} {
		subject := row{{atv(kind, api.TagIa5, "x@y")}}
		wantNames(t, kind, api.Cert{Subject: subject}, dir(subject...))
	}
}

// P14.5: whose text there is, of each of the kinds that chapter 6 knows.
func TestNamesTexts(t *testing.T) {
	for _, c := range []struct {
		tag        int
		data, text string
	}{
		{api.TagIa5, "X@y", "X@y"}, {api.TagUtf8, "\u00e4@y", "\u00e4@y"}, {api.TagVisible, " x@y ", " x@y "}, {api.TagPrintable, "A  b", "A  b"}, {api.TagNumeric, "12 3", "12 3"},
		{api.TagBmp, "\x00x\x00@\x20\xac", "x@\u20ac"}, {api.TagIa5, "", ""}, {api.TagBmp, "", ""},
	} {
		subject := row{{atv(oidMail, c.tag, c.data)}}
		wantNames(t, "a text", api.Cert{Subject: subject}, dir(subject...), mail(c.text))
	}
	none := set{atv(oidMail, api.TagIa5, "\x80@y"), atv(oidMail, api.TagUtf8, "\xff"), atv(oidMail, api.TagPrintable, "x@y"), atv(oidMail, api.TagNumeric, "x"), atv(oidMail, api.TagVisible, "\t"), atv(oidMail, api.TagBmp, "x"), atv(oidMail, api.TagOctets, "x@y"), atv(oidMail, 0, "x@y"), atv(oidMail, -1, "x@y"), atv(oidMail, 20, "x@y")}
	for _, x := range none {
		wantNames(t, "no text", api.Cert{Subject: row{{x}}}, dir(set{x}))
		wantNames(t, "no text, and one", api.Cert{Subject: row{{x, post("x@y")}}}, dir(set{x, post("x@y")}), mail("x@y"))
		wantNames(t, "one, and no text", api.Cert{Subject: row{{post("x@y")}, {x}}}, dir(set{post("x@y")}, set{x}), mail("x@y"))
	}
}

// P14.5: by chance, against the second writing.
func TestNamesAgainstModel(t *testing.T) {
	r := rand.New(rand.NewSource(145))
	both := 0
	for range 30000 {
		c := api.Cert{Subject: drawnDir(r), Names: drawnGens(r, 3, false)}
		asked := modelNames(c)
		wantNames(t, "drawn", c, asked...)
		if len(asked) > len(c.Names)+1 && len(c.Names) > 0 {
			both++
		}
		if t.Failed() {
			return
		}
	}
	if both < 1000 {
		t.Errorf("only %d had names, and addresses in the subject", both)
	}
}
