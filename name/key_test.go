package name_test

import (
	"math"
	"math/rand"
	"strings"
	"testing"

	"chirograph/api"
	"chirograph/name"
)

// P7.4: the example of the chapter, and the words of its promise.
func TestKey(t *testing.T) {
	wantKey(t, one(atv("2.5.4.6", api.TagPrintable, "DE")), "2.5.4.6=3:=de;/")
	wantKey(t, nil, "")
	wantKey(t, row{}, "")
	wantKey(t, one(cn("")), "2.5.4.3=1:=;/")
	wantKey(t, one(cn("  A  b ")), "2.5.4.3=4:=a b;/")
	wantKey(t, one(cn("é")), "2.5.4.3=3:=é;/") // bytes are counted
	wantKey(t, one(atv("2.5.4.3", api.TagBmp, "\x20\xac")), "2.5.4.3=4:=€;/")
	wantKey(t, one(atv("2.5.4.3", 4, "\x01")), "2.5.4.3=4:#4:\x01;/")
	wantKey(t, one(cn("\xff")), "2.5.4.3=5:#12:\xff;/")
	wantKey(t, one(cn(strings.Repeat("A", 100))), "2.5.4.3=101:="+strings.Repeat("a", 100)+";/")
	wantKey(t, row{{cn("b")}, {cn("a")}}, "2.5.4.3=2:=b;/2.5.4.3=2:=a;/") // sets stay where they are
	wantKey(t, row{{cn("b"), cn("a")}}, "2.5.4.3=2:=a;2.5.4.3=2:=b;/")
	wantKey(t, row{{cn("a"), cn("A")}}, "2.5.4.3=2:=a;2.5.4.3=2:=a;/")
}

// P7.4: marks stand in the order of their bytes: of Types as texts, of lengths
// as digits.
func TestKeyOrder(t *testing.T) {
	ten := strings.Repeat("b", 9)
	wantKey(t, row{{cn("c"), cn(ten)}}, "2.5.4.3=10:="+ten+";2.5.4.3=2:=c;/")
	wantKey(t, row{{atv("2.5.4.3", 12, "a"), atv("2.5.4.10", 12, "b")}}, "2.5.4.10=2:=b;2.5.4.3=2:=a;/")
	wantKey(t, row{{atv("2.5.4.30", 12, "a"), atv("2.5.4.3", 12, "b")}}, "2.5.4.30=2:=a;2.5.4.3=2:=b;/") // 0 is ahead of =
	wantKey(t, row{{atv("2.5.4.3.1", 12, "a"), atv("2.5.4.3", 12, "b")}}, "2.5.4.3.1=2:=a;2.5.4.3=2:=b;/")
	wantKey(t, row{{cn("é"), cn("zz")}}, "2.5.4.3=3:=zz;2.5.4.3=3:=é;/")
	wantKey(t, row{{atv("2.5.4.3", 4, ""), cn("aa")}}, "2.5.4.3=3:#4:;2.5.4.3=3:=aa;/")
}

// P7.4: what is no name has a Key too.
func TestKeyOfNoNames(t *testing.T) {
	wantKey(t, row{{}}, "/")
	wantKey(t, row{nil, {}, {cn("a")}, nil}, "//2.5.4.3=2:=a;//")
	wantKey(t, one(api.Atv{}), "=3:#0:;/")
	wantKey(t, one(atv("x", -1, "a")), "x=5:#-1:a;/")
	wantKey(t, one(atv("x", math.MaxInt, "")), "x=21:#9223372036854775807:;/")
	wantKey(t, make(row, 100), strings.Repeat("/", 100))
	wantKey(t, row{often(100, cn("A"))}, strings.Repeat("2.5.4.3=2:=a;", 100)+"/")
}

// P7.4: what is Same, and what is not.
func TestSame(t *testing.T) {
	wantSame(t, nil, nil, true)
	wantSame(t, nil, row{}, true)
	wantSame(t, nil, row{{}}, false)
	wantSame(t, row{nil}, row{{}}, true)
	wantSame(t, one(cn("a")), one(cn("a")), true)
	wantSame(t, one(cn("ACME  Inc ")), one(atv("2.5.4.3", api.TagPrintable, "acme inc")), true)
	wantSame(t, one(cn("ab")), one(atv("2.5.4.3", api.TagBmp, "\x00A\x00B")), true)
	wantSame(t, one(cn("a b")), one(cn("ab")), false)
	wantSame(t, one(cn("é")), one(cn("É")), false)
	wantSame(t, one(cn("a")), one(cn("b")), false)
	wantSame(t, one(cn("a")), one(atv("2.5.4.6", api.TagUtf8, "a")), false)
	wantSame(t, one(cn("a")), one(atv("2.5.4.3", 4, "a")), false)
	wantSame(t, one(atv("2.5.4.3", 4, "a")), one(atv("2.5.4.3", 4, "A")), false) // no text
	wantSame(t, one(atv("2.5.4.3", 4, "a")), one(atv("2.5.4.3", 5, "a")), false)
	wantSame(t, one(cn("a")), nil, false)
	wantSame(t, one(cn("a")), row{{cn("a"), cn("a")}}, false)
	wantSame(t, one(cn("a")), row{{cn("a")}, {cn("a")}}, false)
	wantSame(t, row{{cn("a"), cn("b")}}, row{{cn("b"), cn("a")}}, true)
	wantSame(t, row{{cn("a")}, {cn("b")}}, row{{cn("b")}, {cn("a")}}, false)
	wantSame(t, row{{cn("a")}, {cn("b")}}, row{{cn("a"), cn("b")}}, false)
	wantSame(t, row{{cn("a"), cn("a"), cn("b")}}, row{{cn("a"), cn("b"), cn("b")}}, false)
	// a value that looks like the end of its part and another one behind it
	wantSame(t, one(cn("a;2.5.4.3=2:=b")), row{{cn("a"), cn("b")}}, false)
	wantSame(t, one(cn("a;/2.5.4.3=2:=b")), row{{cn("a")}, {cn("b")}}, false)
}

// P7.4: a name is within those that it begins with.
func TestWithin(t *testing.T) {
	a, b, c := set{cn("a"), cn("x")}, set{cn("b")}, set{cn("c")}
	other := set{cn(" X "), cn("A")} // the same as a
	wantWithin(t, nil, nil, true)
	wantWithin(t, row{a}, nil, true)
	wantWithin(t, row{{}}, row{}, true)
	wantWithin(t, nil, row{a}, false)
	wantWithin(t, nil, row{{}}, false)
	wantWithin(t, row{a}, row{a}, true)
	wantWithin(t, row{a}, row{other}, true)
	wantWithin(t, row{a, b, c}, row{other}, true)
	wantWithin(t, row{a, b, c}, row{other, b}, true)
	wantWithin(t, row{a, b, c}, row{other, b, c}, true)
	wantWithin(t, row{a, b, c}, row{other, b, c, c}, false)
	wantWithin(t, row{a}, row{other, b}, false)
	wantWithin(t, row{a, b, c}, row{other, c}, false)
	wantWithin(t, row{a, b, c}, row{b}, false)
	wantWithin(t, row{a, b, c}, row{b, c}, false)
	wantWithin(t, row{a, b, c}, row{c}, false)
	wantWithin(t, row{a, b, c}, row{{cn("a")}}, false) // a set as a whole
	wantWithin(t, row{{cn("a")}, b}, row{a}, false)
	wantWithin(t, row{{}, a}, row{nil}, true)
	wantWithin(t, often(100, b), often(99, b), true)
	wantWithin(t, often(99, b), often(100, b), false)
}

// P7.4: drawn names against the second writing.
func TestKeyAgainstModel(t *testing.T) {
	r := rand.New(rand.NewSource(74))
	within, same := 0, 0
	for range 60000 {
		n, m := drawn(r), drawn(r)
		if r.Intn(2) == 0 {
			m = shuffled(r, n)[:r.Intn(len(n)+1)]
		}
		wantKey(t, n, modelKey(n))
		wantSame(t, n, m, modelKey(n) == modelKey(m))
		wantWithin(t, n, m, modelWithin(n, m))
		wantWithin(t, m, n, modelWithin(m, n))
		if t.Failed() {
			return
		}
		if len(n) > 1 && name.Same(n, m) {
			same++
		}
		if len(m) > 0 && name.Within(n, m) && len(n) > len(m) {
			within++
		}
	}
	if same < 1000 || within < 1000 {
		t.Errorf("only %d were the same, %d within", same, within)
	}
}
