package name_test

import (
	"encoding/hex"
	"fmt"
	"math/big"
	"regexp"
	"sort"
	"strings"
	"unicode/utf8"

	"chirograph/api"
	"chirograph/der"
	"chirograph/text"
)

// A second writing of the chapter, by other means: faults are thrown, bytes
// are texts, elements are laid by hand.

type thrown struct{ e api.Errno }

// check throws e where it is a fault.
func check(fault bool, e api.Errno) {
	if fault {
		panic(thrown{e})
	}
}

func caught(e *api.Errno) {
	if x := recover(); x != nil {
		*e = x.(thrown).e
	}
}

func head(x api.Tlv) string {
	return fmt.Sprint(x.Class, x.Tag, x.Cons)
}

func modelSplit(x api.Tlv, want string) []api.Tlv {
	check(head(x) != want, api.ErrTag)
	l, e, _ := der.Split(x.Data)
	check(e != api.OK, e)
	return l
}

func modelParse(b []byte) (n row, e api.Errno) {
	defer caught(&e)
	x, fault := der.One(b)
	check(fault != api.OK, fault)
	sets := modelSplit(x, "0 16 true")
	check(len(sets) > 64, api.ErrMany)
	var read row
	for _, s := range sets {
		parts := modelSplit(s, "0 17 true")
		check(len(parts) == 0, api.ErrNone)
		check(len(parts) > 64, api.ErrMany)
		var of set
		for _, p := range parts {
			two := modelSplit(p, "0 16 true")
			check(len(two) != 2, api.ErrTag)
			check(head(two[0]) != "0 6 false", api.ErrTag)
			check(head(two[1]) != fmt.Sprint(0, two[1].Tag, false), api.ErrTag)
			kind, fault := der.Oid(two[0].Data)
			check(fault != api.OK, fault)
			of = append(of, api.Atv{Type: kind, Tag: two[1].Tag, Data: two[1].Data})
		}
		read = append(read, of)
	}
	return read, api.OK
}

// sevens has n in digits of seven bits, bit 8 set in all but the last.
func sevens(n *big.Int) string {
	s := ""
	for more := byte(0); ; more = 0x80 {
		s = string([]byte{byte(n.Uint64()&0x7f) | more}) + s
		if n = new(big.Int).Rsh(n, 7); n.Sign() == 0 {
			return s
		}
	}
}

var oidForm = regexp.MustCompile(`^(0|[1-9][0-9]*)(\.(0|[1-9][0-9]*))+$`)

func modelOid(s string) string {
	check(!oidForm.MatchString(s), api.ErrForm)
	var l []*big.Int
	for _, w := range strings.Split(s, ".") {
		n, _ := new(big.Int).SetString(w, 10)
		l = append(l, n)
	}
	check(l[0].Cmp(big.NewInt(2)) > 0, api.ErrForm)
	check(l[0].Int64() < 2 && l[1].Cmp(big.NewInt(40)) >= 0, api.ErrForm)
	for _, n := range l {
		check(n.Cmp(big.NewInt(2147483647)) > 0, api.ErrLong)
	}
	b := sevens(new(big.Int).Add(l[1], big.NewInt(40*l[0].Int64())))
	for _, n := range l[2:] {
		b += sevens(n)
	}
	return b
}

func modelPut(first int, data ...string) string {
	s := strings.Join(data, "")
	check(len(s) > 16777216, api.ErrLong)
	return el(first, s)
}

// modelValue lays a value whose tag may need bytes of its own.
func modelValue(tag int, data string) string {
	s := modelPut(tag&0x1f, data)
	if tag < 31 {
		return s
	}
	return "\x1f" + sevens(big.NewInt(int64(tag))) + s[1:]
}

func modelBuild(n row) (b string, e api.Errno) {
	defer caught(&e)
	check(len(n) > 64, api.ErrMany)
	for _, s := range n {
		check(len(s) > 64, api.ErrMany)
	}
	all := ""
	for _, s := range n {
		check(len(s) == 0, api.ErrNone)
		var parts []string
		for _, x := range s {
			kind := modelOid(x.Type)
			check(x.Tag < 1, api.ErrArg)
			check(x.Tag > 268435455, api.ErrArg)
			parts = append(parts, modelPut(0x30, modelPut(6, kind), modelValue(x.Tag, string(x.Data))))
		}
		sort.Strings(parts)
		all += modelPut(0x31, parts...)
	}
	return modelPut(0x30, all), api.OK
}

func modelKey(n row) string {
	s := ""
	for _, of := range n {
		var marks []string
		for _, x := range of {
			k := text.Key(x.Tag, x.Data)
			marks = append(marks, fmt.Sprintf("%s=%d:%s;", x.Type, len(k), k))
		}
		sort.Strings(marks)
		s += strings.Join(marks, "") + "/"
	}
	return s
}

func modelWithin(n, base row) bool {
	for i := range base {
		if i >= len(n) || modelKey(n[i:i+1]) != modelKey(base[i:i+1]) {
			return false
		}
	}
	return true
}

var (
	special = regexp.MustCompile(`["+,;<>=\\]|^#|^ | $`)
	control = regexp.MustCompile("[\x00-\x1f\x7f]")
)

func modelValueShown(tag int, data []byte) string {
	s, e := text.Text(tag, data)
	if e != api.OK {
		return "#" + hex.EncodeToString(data)
	}
	if !utf8.ValidString(s) {
		panic("a text that is none")
	}
	s = special.ReplaceAllString(s, `\$0`)
	return control.ReplaceAllStringFunc(s, func(c string) string { return fmt.Sprintf(`\%02x`, c[0]) })
}

func modelShow(n row) string {
	short := strings.NewReplacer("<2.5.4.3>", "CN", "<2.5.4.6>", "C", "<2.5.4.7>", "L", "<2.5.4.8>", "ST", "<2.5.4.10>", "O", "<2.5.4.11>", "OU", "<1.2.840.113549.1.9.1>", "E", "<", "", ">", "")
	var sets []string
	for _, of := range n {
		var parts []string
		for _, x := range of {
			parts = append(parts, short.Replace("<"+x.Type+">")+"="+modelValueShown(x.Tag, x.Data))
		}
		sets = append([]string{strings.Join(parts, "+")}, sets...)
	}
	return strings.Join(sets, ",")
}
