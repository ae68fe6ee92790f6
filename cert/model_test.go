package cert_test

import (
	"bytes"
	"regexp"

	"chirograph/alg"
	"chirograph/api"
	"chirograph/clock"
	"chirograph/der"
	"chirograph/name"
)

// A second writing of the chapter, by other means: a row of elements is a word,
// a letter for each head, and its form a regular expression; faults are thrown.

type thrown struct{ e api.Errno }

func check(ok bool, e api.Errno) {
	if !ok {
		panic(thrown{e})
	}
}

// letter stands for an element's head: of class Context a digit if it is Cons,
// else one of A to J.
func letter(x api.Tlv) string {
	universal := map[int]string{api.TagBool: "b", api.TagInt: "i", api.TagBits: "x", api.TagOctets: "o", api.TagOid: "d", api.TagUtc: "t", api.TagGeneral: "t"}
	switch {
	case x.Class == 0 && x.Cons && x.Tag == api.TagSeq:
		return "S"
	case x.Class == 0 && !x.Cons && universal[x.Tag] != "":
		return universal[x.Tag]
	case x.Class == 2 && x.Cons && x.Tag < 10:
		return string(rune('0' + x.Tag))
	case x.Class == 2 && !x.Cons && x.Tag < 10:
		return string(rune('A' + x.Tag))
	}
	return "."
}

var forms = map[string]*regexp.Regexp{}

// formOf keeps what it was asked for: there are few, asked often.
func formOf(like string) *regexp.Regexp {
	if forms[like] == nil {
		forms[like] = regexp.MustCompile("^(?:" + like + ")$")
	}
	return forms[like]
}

// form has the elements of data, if their letters are of that form.
func form(data []byte, like string) []api.Tlv {
	l, e, _ := der.Split(data)
	check(e == api.OK, api.ErrForm)
	word := ""
	for _, x := range l {
		word += letter(x)
	}
	check(formOf(like).MatchString(word), api.ErrForm)
	for _, x := range l {
		checkValue(x)
	}
	return l
}

// checkValue asks what Seqs, Ints, Oids, Bools, Bits must have wherever they
// stand.
func checkValue(x api.Tlv) {
	e := api.OK
	switch letter(x) {
	case "S":
		_, e, _ = der.Split(x.Data)
	case "b":
		_, e = der.Bool(x.Data)
	case "i":
		if _, e = der.Int(x.Data); e != api.ErrForm {
			e = api.OK
		}
	case "x":
		_, _, e = der.Bits(x.Data)
	case "d":
		_, e = der.Oid(x.Data)
	}
	check(e == api.OK, api.ErrForm)
}

// about is the one element of a form.
func about(data []byte, like string) api.Tlv {
	return form(data, like)[0]
}

func modelCount(data []byte) int {
	n, e := der.Int(data)
	check(e == api.OK && n >= 0 && n <= 1000, api.ErrForm)
	return n
}

func modelName(x api.Tlv) [][]api.Atv {
	n, e := name.Parse(x.Raw)
	check(e == api.OK, api.ErrForm)
	return n
}

func modelTime(x api.Tlv) int {
	sec, e := clock.Time(x)
	check(e == api.OK, api.ErrForm)
	return sec
}

func modelGeneral(x api.Tlv, base bool) api.Gen {
	g := api.Gen{Kind: x.Tag}
	many := 1
	if base {
		many = 2
	}
	switch letter(x) {
	case "B", "C":
		check(!bytes.ContainsFunc(x.Data, func(c rune) bool { return c >= 0x80 }), api.ErrForm)
		g.Text = string(x.Data)
	case "4":
		g.Dir = modelName(about(x.Data, "S"))
	case "H":
		check(len(x.Data) == 4*many || len(x.Data) == 16*many, api.ErrForm)
		g.Ip = x.Data
	case "0", "3", "5", "G", "I":
	default:
		check(false, api.ErrForm)
	}
	return g
}

// modelExt is an extension taken apart.
type modelExt struct {
	oid      string
	critical bool
	data     []byte
}

func modelExts(x api.Tlv) (l []modelExt) {
	rows, e, _ := der.Split(about(x.Data, "S").Data)
	check(e == api.OK && len(rows) > 0, api.ErrForm)
	if len(rows) > 64 {
		return make([]modelExt, len(rows))
	}
	for _, y := range rows {
		check(letter(y) == "S", api.ErrForm)
		parts := form(y.Data, "db?o")
		oid, _ := der.Oid(parts[0].Data)
		l = append(l, modelExt{oid, len(parts) == 3 && parts[1].Data[0] == 0xff, parts[len(parts)-1].Data})
	}
	return l
}

// modelFields puts what an extension says into c.
func modelFields(c *api.Cert, x modelExt) {
	row := func(like string) []api.Tlv { return form(about(x.data, "S").Data, like) }
	switch x.oid {
	case "2.5.29.19":
		for _, y := range row("b?i?") {
			if y.Tag == api.TagBool {
				c.Ca = y.Data[0] == 0xff
			} else {
				c.Below = modelCount(y.Data)
			}
		}
	case "2.5.29.15":
		n, e := der.Flags(about(x.data, "x").Data)
		check(e == api.OK, api.ErrForm)
		c.Usage = int(n)
	case "2.5.29.37":
		for _, y := range row("d{1,64}") {
			oid, _ := der.Oid(y.Data)
			c.Eku = append(c.Eku, oid)
		}
		c.EkuMust = x.critical
	case "2.5.29.17":
		for _, y := range row(".{1,64}") {
			c.Names = append(c.Names, modelGeneral(y, false))
		}
	case "2.5.29.32":
		for _, y := range row("S{1,64}") {
			oid, _ := der.Oid(form(y.Data, "dS?")[0].Data)
			c.Policies = append(c.Policies, oid)
		}
	case "2.5.29.54":
		c.Inhibit = modelCount(about(x.data, "i").Data)
	case "2.5.29.14":
		c.Ski = about(x.data, "o").Data
	default:
		modelMoreFields(c, x, row)
	}
}

func modelMoreFields(c *api.Cert, x modelExt, row func(string) []api.Tlv) {
	switch x.oid {
	case "2.5.29.30":
		for _, y := range row("0?1?") {
			for _, z := range form(y.Data, "S{1,64}") {
				g := modelGeneral(about(z.Data, "."), true)
				c.Unknown = c.Unknown || g.Kind != 1 && g.Kind != 2 && g.Kind != 4 && g.Kind != 7
				if y.Tag == 0 {
					c.Permitted = append(c.Permitted, g)
				} else {
					c.Excluded = append(c.Excluded, g)
				}
			}
		}
	case "2.5.29.36":
		for _, y := range row("A?B?") {
			if n := modelCount(y.Data); y.Tag == 0 {
				c.Require = n
			}
		}
	case "2.5.29.35":
		l, e, _ := der.Split(about(x.data, "S").Data)
		check(e == api.OK, api.ErrForm)
		for i := len(l) - 1; i >= 0; i-- {
			if letter(l[i]) == "A" {
				c.Aki = l[i].Data
			}
		}
	default:
		c.Unknown = c.Unknown || x.critical
	}
}

func caught(c *api.Cert, e *api.Errno) {
	if x := recover(); x != nil {
		*c, *e = api.Cert{}, x.(thrown).e
	}
}

func modelParse(b []byte) (c api.Cert, e api.Errno) {
	defer caught(&c, &e)
	c = api.Cert{Raw: b, Below: -1, Usage: -1, Require: -1, Inhibit: -1}
	outer := form(about(b, "S").Data, "SSx")
	c.Tbs = outer[0].Raw
	l := form(outer[0].Data, "0?iSSSSSB?C?3?")
	number, version := []byte{0}, 0
	if letter(l[0]) == "0" {
		number, l = about(l[0].Data, "i").Data, l[1:]
	}
	c.Serial, c.Issuer, c.Subject = l[0].Data, modelName(l[2]), modelName(l[4])
	both := form(l[3].Data, "tt")
	c.From, c.Until = modelTime(both[0]), modelTime(both[1])
	check(bytes.Equal(l[1].Raw, outer[1].Raw), api.ErrForm)
	check(outer[2].Data[0] == 0, api.ErrForm)
	c.Sig = outer[2].Data[1:]
	var exts []modelExt
	if last := l[len(l)-1]; letter(last) == "3" {
		exts = modelExts(last)
	}
	seen := map[string]bool{}
	twice := false
	for _, x := range exts {
		if len(exts) <= 64 {
			modelFields(&c, x)
		}
		twice = twice || seen[x.oid]
		seen[x.oid] = true
	}
	check(len(exts) <= 64, api.ErrMany)
	check(len(number) == 1 && number[0] <= 2, api.ErrVersion)
	version = int(number[0])
	check(len(exts) == 0 || version == 2, api.ErrVersion)
	c.Way, e = alg.Sign(l[1])
	check(e == api.OK, e)
	c.Key, e = alg.Key(l[5])
	check(e == api.OK, e)
	check(!twice, api.ErrTwice)
	return c, api.OK
}
