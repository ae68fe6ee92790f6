package crl_test

import (
	"bytes"
	"regexp"

	"chirograph/alg"
	"chirograph/api"
	"chirograph/clock"
	"chirograph/der"
	"chirograph/name"
)

// A second writing of the chapter, by other means: a row of elements is a word,
// a letter for each head, and its form a regular expression; all that is asked
// beyond the form is asked of a tree that was taken apart whole.

// letter stands for an element's head.
func letter(x api.Tlv) string {
	universal := map[int]string{api.TagBool: "b", api.TagInt: "i", api.TagBits: "x", api.TagOctets: "o", api.TagOid: "d", api.TagUtc: "t", api.TagGeneral: "t", api.TagEnum: "e"}
	switch {
	case x.Class == 0 && x.Cons && x.Tag == api.TagSeq:
		return "S"
	case x.Class == 0 && !x.Cons && universal[x.Tag] != "":
		return universal[x.Tag]
	case x.Class == 2 && x.Tag == 0 && x.Cons:
		return "0"
	case x.Class == 2 && x.Tag == 0:
		return "A"
	}
	return "."
}

var forms = map[string]*regexp.Regexp{}

// formOf keeps what it was asked for: there are few, asked often.
func formOf(like string) *regexp.Regexp {
	if forms[like] == nil {
		forms[like] = regexp.MustCompile("^(?:" + like + ")$")
	}
	return forms[like]
}

// form has the elements of data, if their letters are of that form.
func form(data []byte, like string) ([]api.Tlv, bool) {
	l, e, _ := der.Split(data)
	if e != api.OK {
		return nil, false
	}
	var word bytes.Buffer
	for _, x := range l {
		word.WriteString(letter(x))
	}
	if !formOf(like).Match(word.Bytes()) {
		return nil, false
	}
	for _, x := range l {
		if !hasValue(x) {
			return nil, false
		}
	}
	return l, true
}

// hasValue asks what an element must have wherever it stands.
func hasValue(x api.Tlv) bool {
	e := api.OK
	switch letter(x) {
	case "S":
		_, e, _ = der.Split(x.Data)
	case "b":
		_, e = der.Bool(x.Data)
	case "i":
		_, e = der.Int(x.Data)
		return e != api.ErrForm
	case "x":
		_, _, e = der.Bits(x.Data)
	case "d":
		_, e = der.Oid(x.Data)
	case "t":
		_, e = clock.Time(x)
	}
	return e == api.OK
}

// modelExt is an extension taken apart.
type modelExt struct {
	oid      string
	critical bool
	data     []byte
}

// modelExts has those in a Seq's Data; where there are too many, only how many.
func modelExts(data []byte) (l []modelExt, ok bool) {
	rows, e, _ := der.Split(data)
	if e != api.OK || len(rows) == 0 {
		return nil, false
	}
	if len(rows) > 64 {
		return make([]modelExt, len(rows)), true
	}
	for _, y := range rows {
		parts, ok := form(y.Data, "db?o")
		if letter(y) != "S" || !ok {
			return nil, false
		}
		oid, _ := der.Oid(parts[0].Data)
		l = append(l, modelExt{oid, len(parts) == 3 && parts[1].Data[0] == 0xff, parts[len(parts)-1].Data})
	}
	return l, true
}

// place is the list, or an entry, with its extensions.
type place struct {
	entry bool
	exts  []modelExt
}

func (p place) many() bool { return len(p.exts) > 64 }

func (p place) twice() bool {
	seen := map[string]bool{}
	for _, x := range p.exts {
		if seen[x.oid] {
			return true
		}
		seen[x.oid] = true
	}
	return false
}

func (p place) unknown() bool {
	known := map[string]bool{"2.5.29.21": p.entry, "2.5.29.35": !p.entry, "2.5.29.20": !p.entry}
	for _, x := range p.exts {
		if x.critical && !known[x.oid] {
			return true
		}
	}
	return false
}

// value has what the last extension with that Oid has, and whether all are of
// that form.
func (p place) value(oid, like string) (api.Tlv, bool) {
	var found api.Tlv
	for _, x := range p.exts {
		if x.oid != oid || p.many() {
			continue
		}
		l, ok := form(x.data, like)
		if !ok {
			return api.Tlv{}, false
		}
		found = l[0]
	}
	return found, true
}

func (p place) reason() (int, bool) {
	for _, x := range p.exts {
		if x.oid != "2.5.29.21" || p.many() {
			continue
		}
		l, ok := form(x.data, "e")
		if !ok || len(l[0].Data) != 1 || !bytes.Contains([]byte{0, 1, 2, 3, 4, 5, 6, 8, 9, 10}, l[0].Data) {
			return 0, false
		}
	}
	x, ok := p.value("2.5.29.21", "e")
	return int(append(x.Data, 0)[0]), ok
}

func (p place) issuerKey() ([]byte, bool) {
	x, ok := p.value("2.5.29.35", "S")
	l, e, _ := der.Split(x.Data)
	for _, y := range l {
		if letter(y) == "A" {
			return y.Data, ok && e == api.OK
		}
	}
	return nil, ok && e == api.OK
}

// modelGone is an entry, and where its extensions stand.
func modelGone(x api.Tlv) (g api.Gone, p place, ok bool) {
	l, ok := form(x.Data, "itS?")
	if !ok {
		return g, p, false
	}
	p.entry = true
	if len(l) == 3 {
		if p.exts, ok = modelExts(l[2].Data); !ok {
			return g, p, false
		}
	}
	at, _ := clock.Time(l[1])
	why, ok := p.reason()
	return api.Gone{Serial: l[0].Data, At: at, Reason: why}, p, ok
}

// modelBody has the fields behind the issuer's name, and all places.
func modelBody(c *api.Crl, l []api.Tlv) (places []place, ok bool) {
	c.This, _ = clock.Time(l[0])
	c.Open = true
	var own place
	for _, x := range l[1:] {
		switch letter(x) {
		case "t":
			c.Next, _ = clock.Time(x)
			c.Open = false
		case "S":
			rows, ok := form(x.Data, "S*")
			for _, y := range rows {
				g, p, fine := modelGone(y)
				ok = ok && fine
				c.Gone = append(c.Gone, g)
				places = append(places, p)
			}
			if !ok {
				return nil, false
			}
		case "0":
			in, ok := form(x.Data, "S")
			if ok {
				own.exts, ok = modelExts(in[0].Data)
			}
			if !ok {
				return nil, false
			}
		}
	}
	_, ok = own.value("2.5.29.20", "i")
	aki, fine := own.issuerKey()
	c.Aki = aki
	return append(places, own), ok && fine
}

func modelParse(b []byte) (api.Crl, api.Errno) {
	top, ok := form(b, "S")
	if !ok {
		return api.Crl{}, api.ErrForm
	}
	outer, ok := form(top[0].Data, "SSx")
	if !ok || outer[2].Data[0] != 0 {
		return api.Crl{}, api.ErrForm
	}
	l, ok := form(outer[0].Data, "i?SStt?S?0?")
	if !ok {
		return api.Crl{}, api.ErrForm
	}
	var number []byte
	if letter(l[0]) == "i" {
		number, l = l[0].Data, l[1:]
	}
	c := api.Crl{Raw: b, Tbs: outer[0].Raw, Sig: outer[2].Data[1:]}
	var e api.Errno
	c.Issuer, e = name.Parse(l[1].Raw)
	places, ok := modelBody(&c, l[2:])
	if !ok || e != api.OK || !bytes.Equal(l[0].Raw, outer[1].Raw) {
		return api.Crl{}, api.ErrForm
	}
	if e := modelJudge(&c, number, l[0], places); e != api.OK {
		return api.Crl{}, e
	}
	return c, api.OK
}

func modelJudge(c *api.Crl, number []byte, way api.Tlv, places []place) api.Errno {
	many, twice, extended := false, false, false
	for _, p := range places {
		many = many || p.many()
		twice = twice || p.twice()
		extended = extended || len(p.exts) > 0
		c.Unknown = c.Unknown || p.unknown()
	}
	var e api.Errno
	c.Way, e = alg.Sign(way)
	switch {
	case many:
		return api.ErrMany
	case number != nil && !bytes.Equal(number, []byte{1}), number == nil && extended:
		return api.ErrVersion
	case e != api.OK:
		return api.ErrAlg
	case twice:
		return api.ErrTwice
	}
	return api.OK
}
