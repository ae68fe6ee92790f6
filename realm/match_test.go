package realm_test

import (
	"math"
	"math/rand"
	"testing"

	"chirograph/api"
)

// P14.3: each of the four kinds by what is its own.
func TestMatch(t *testing.T) {
	wantMatch(t, mail("x@b.example"), mail("B.example"), true)
	wantMatch(t, mail("x@a.b.example"), mail("b.example"), false)
	wantMatch(t, mail("x@a.b.example"), mail(".b.example"), true)
	wantMatch(t, mail("b.example"), mail("b.example"), false)
	wantMatch(t, dns("a.b.example"), dns("b.example"), true)
	wantMatch(t, dns("b.example"), dns("b.example"), true)
	wantMatch(t, dns("ab.example"), dns("b.example"), false)
	wantMatch(t, ip("0a 01 02 03"), ip("0a 01 00 00 ff ff 00 00"), true)
	wantMatch(t, ip("0a 02 02 03"), ip("0a 01 00 00 ff ff 00 00"), false)
	wantMatch(t, ip("0a 01 00 00"), ip("0a 01 00 00"), false)
	wantMatch(t, ip(""), ip(""), false)
}

// P14.3: directories begin as the base does, by what of their texts counts.
func TestMatchDirs(t *testing.T) {
	a, b, c := set{cn("a")}, set{cn("b"), atv("2.5.4.6", api.TagPrintable, "DE")}, set{cn("c")}
	wantMatch(t, dir(), dir(), true)
	wantMatch(t, dir(a), dir(), true)
	wantMatch(t, dir(), dir(a), false)
	wantMatch(t, dir(a, b, c), dir(a), true)
	wantMatch(t, dir(a, b, c), dir(a, b), true)
	wantMatch(t, dir(a, b, c), dir(a, b, c), true)
	wantMatch(t, dir(a, b), dir(a, b, c), false)
	wantMatch(t, dir(a, b, c), dir(b), false)
	wantMatch(t, dir(a, b, c), dir(b, c), false)
	wantMatch(t, dir(a, b, c), dir(a, c), false)
	wantMatch(t, dir(a, b, c), dir(set{atv("2.5.4.3", api.TagIa5, " A ")}, set{b[1], b[0]}), true)
	wantMatch(t, dir(a, b, c), dir(a, set{cn("b")}), false)
	wantMatch(t, dir(set{post("x@b")}), dir(set{post("b")}), false)
}

// P14.3: names of two kinds, or of others than the four, match never.
func TestMatchKinds(t *testing.T) {
	full := api.Gen{Text: "x@b", Ip: []byte{1}, Dir: row{{cn("a")}}}
	kinds := []int{math.MinInt, -7, -1, 0, 1, 2, 3, 4, 5, 6, 7, 8, 9, 16, 1<<32 + 1, math.MaxInt}
	for _, text := range []string{"", "b", "x@b"} {
		for _, bytes := range [][]byte{nil, {1}, {1, 0xff}} {
			for _, k := range kinds {
				for _, j := range kinds {
					g, base := full, api.Gen{Kind: j, Text: text, Ip: bytes}
					g.Kind = k
					asked := false
					switch {
					case k != j:
					case k == api.GenMail:
						asked = true
					case k == api.GenDns:
						asked = text != "b"
					case k == api.GenDir:
						asked = true
					case k == api.GenIp:
						asked = len(bytes) == 2
					}
					wantMatch(t, g, base, asked)
					wantMatch(t, api.Gen{Kind: k}, api.Gen{Kind: j}, k == j && (k == api.GenDns || k == api.GenDir))
				}
			}
		}
	}
}

// P14.3: of each kind just its own field counts.
func TestMatchFields(t *testing.T) {
	for _, c := range []struct{ g, base api.Gen }{{mail("x@b"), mail("b")}, {dns("a.b"), dns("b")}, {dir(set{cn("a")}), dir(set{cn("a")})}, {ip("01"), ip("01 ff")}} {
		g, base := c.g, c.base
		if g.Text == "" {
			g.Text, base.Text = "x", "y"
		}
		if g.Ip == nil {
			g.Ip, base.Ip = []byte{1}, []byte{2, 0xff}
		}
		if g.Dir == nil {
			base.Dir = row{{cn("z")}}
		}
		wantMatch(t, c.g, c.base, true)
		wantMatch(t, g, c.base, true)
		wantMatch(t, c.g, base, true)
		wantMatch(t, g, base, true)
	}
}

// P14.3: by chance, against the second writing.
func TestMatchAgainstModel(t *testing.T) {
	r := rand.New(rand.NewSource(143))
	good := map[int]int{}
	for range 200000 {
		g, base := drawnGen(r, false), drawnGen(r, true)
		asked := modelMatch(g, base)
		wantMatch(t, g, base, asked)
		if asked {
			good[g.Kind]++
		}
		if t.Failed() {
			return
		}
	}
	for _, k := range []int{api.GenMail, api.GenDns, api.GenDir, api.GenIp} {
		if good[k] < 200 {
			t.Errorf("only %d of kind %d matched", good[k], k)
		}
	}
}
