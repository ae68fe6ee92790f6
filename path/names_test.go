package path_test

import (
	"slices"
	"strconv"
	"testing"

	"chirograph/api"
)

// P16.3, PathNames: the names of each one against the bounds of each above it.

func dns(s string) api.Gen {
	return api.Gen{Kind: api.GenDns, Text: s}
}

func dir(s string) api.Gen {
	return api.Gen{Kind: api.GenDir, Dir: org(s)}
}

func mail(s string) api.Gen {
	return api.Gen{Kind: api.GenMail, Text: s}
}

func gens(l ...api.Gen) []api.Gen {
	return l
}

// wantNames asks what is said of a line of four in which one has a name, and one
// has bounds.
func wantNames(t *testing.T, what string, bounded, named int, own bool, want int) {
	t.Helper()
	anchor, l := line(4)
	l[named].Names = gens(dns("a.example"))
	if own {
		l[named].Issuer = l[named].Subject
	}
	for _, x := range []struct {
		permitted, excluded []api.Gen
		good                bool
	}{
		{nil, nil, true}, {gens(dns("example")), nil, true}, {gens(dns("b.example")), nil, false}, {nil, gens(dns("b.example")), true}, {nil, gens(dns("example")), false},
		{gens(dns("example")), gens(dns("a.example")), false}, {gens(dns("b"), dns("a.example")), gens(dns("b")), true}, {gens(mail("b")), gens(mail("a.example")), true},
	} {
		asks := want
		if x.good {
			asks = api.Accept
		}
		m := changed(l, bounded, func(c *api.Cert) { c.Permitted, c.Excluded = x.permitted, x.excluded })
		wantCheck(t, what+" "+strconv.Itoa(bounded)+" "+strconv.Itoa(named), anchor, m, nil, asked(), asks)
	}
}

// Bounds hold for all below, for none beside or above, and not for those between
// that are their own issuers.
func TestNames(t *testing.T) {
	for bounded := range 4 {
		for named := range 4 {
			want := api.Accept
			if bounded < named {
				want = api.PathNames
			}
			wantNames(t, "another one's", bounded, named, false, want)
			if named < 3 {
				want = api.Accept
			}
			wantNames(t, "its own", bounded, named, true, want)
		}
	}
}

// Each above bounds, not the next one alone, and each below is bounded.
func TestNamesOfMany(t *testing.T) {
	anchor, l := line(4)
	l[0].Permitted, l[1].Permitted, l[2].Permitted = gens(dns("example")), gens(dns("a.example")), gens(dns("b.a.example"), mail("x"))
	for _, x := range []struct {
		second, third, leaf string
		want                int
	}{
		{"example", "a.example", "b.a.example", api.Accept}, {"example", "a.example", "c.b.a.example", api.Accept}, {"b.a.example", "b.a.example", "b.a.example", api.Accept},
		{"a", "a.example", "b.a.example", api.PathNames}, {"example", "example", "b.a.example", api.PathNames}, {"example", "a.example", "a.example", api.PathNames}, {"example", "a.example", "x", api.PathNames},
	} {
		m := slices.Clone(l)
		m[1].Names, m[2].Names, m[3].Names = gens(dns(x.second)), gens(dns(x.third)), gens(dns(x.leaf))
		wantCheck(t, x.second+" "+x.third+" "+x.leaf, anchor, m, nil, asked(), x.want)
	}
}

// The names of one are all that realm.Names tells: its subject, too, and the
// addresses in that.
func TestNamesOfSubjects(t *testing.T) {
	anchor, l := line(2)
	sub := func(n ...[]api.Atv) [][]api.Atv { return n }
	post := []api.Atv{{Type: "1.2.840.113549.1.9.1", Tag: api.TagIa5, Data: []byte("x@b.example")}}
	a := org("a")[0]
	for _, x := range []struct {
		subject             [][]api.Atv
		names               []api.Gen
		permitted, excluded []api.Gen
		want                int
	}{
		{sub(a), nil, gens(dir("a")), nil, api.Accept}, {sub(a), nil, gens(dir("b")), nil, api.PathNames}, {sub(a), nil, nil, gens(dir("A ")), api.PathNames},
		{sub(a), nil, gens(api.Gen{Kind: api.GenDir, Dir: sub(a, a)}), nil, api.PathNames}, {sub(a, a), nil, gens(dir("a")), nil, api.Accept}, {nil, nil, gens(dir("a")), nil, api.Accept},
		{sub(a), gens(dir("b")), gens(dir("a")), nil, api.PathNames}, {sub(a), gens(dir("b")), gens(dir("b"), dir("a")), nil, api.Accept},
		{sub(a, post), nil, gens(mail("b.example")), nil, api.Accept}, {sub(a, post), nil, gens(mail("example")), nil, api.PathNames}, {sub(post), nil, nil, gens(mail("b.example")), api.PathNames},
		{sub(post), gens(mail("x@c.example")), nil, gens(mail("b.example")), api.Accept}, {sub(post), gens(mail("x@c.example")), nil, gens(mail("c.example")), api.PathNames},
		{sub(a), gens(dns("x")), gens(dns("y"), dir("a")), nil, api.PathNames}, {sub(a), gens(api.Gen{Kind: 6, Text: "x"}), gens(api.Gen{Kind: 6, Text: "y"}), gens(api.Gen{Kind: 6, Text: "x"}), api.Accept},
	} {
		m := slices.Clone(l)
		m[0].Permitted, m[0].Excluded = x.permitted, x.excluded
		m[1].Subject, m[1].Names = x.subject, x.names
		wantCheck(t, "a subject", anchor, m, nil, asked(), x.want)
	}
}
