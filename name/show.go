package name

import (
	"strings"

	"chirograph/api"
	"chirograph/text"
)

// label is what a type is called for short.
type label struct {
	letters string
}

// letters has the types that are called for short.
func letters() map[string]label {
	return map[string]label{
		"2.5.4.3":              {"CN"},
		"2.5.4.6":              {"C"},
		"2.5.4.7":              {"L"},
		"2.5.4.8":              {"ST"},
		"2.5.4.10":             {"O"},
		"2.5.4.11":             {"OU"},
		"1.2.840.113549.1.9.1": {"E"},
	}
}

func showPart(b *strings.Builder, short map[string]label, x api.Atv) {
	if s, ok := short[x.Type]; ok {
		b.WriteString(s.letters)
	} else {
		b.WriteString(x.Type)
	}
	b.WriteByte('=')
	s, e := text.Text(x.Tag, x.Data)
	if e != api.OK {
		showBytes(b, x.Data)
		return
	}
	showText(b, s)
}

func showBytes(b *strings.Builder, data []byte) {
	b.WriteByte('#')
	for _, c := range data {
		putDigits(b, c)
	}
}

func showText(b *strings.Builder, s string) {
	for i := range len(s) {
		c := s[i]
		switch {
		case isControl(c):
			b.WriteByte('\\')
			putDigits(b, c)
		case isSpecial(c), c == '#' && i == 0, c == ' ' && (i == 0 || i == len(s)-1):
			b.WriteByte('\\')
			b.WriteByte(c)
		default:
			b.WriteByte(c)
		}
	}
}

func isControl(c byte) bool {
	return c < 0x20 || c == 0x7f
}

// isSpecial: would c, left as it is, be taken for a part's or a set's end, or
// for a beginning of something else?
func isSpecial(c byte) bool {
	return strings.IndexByte(`"+,;<>=\`, c) >= 0
}

func putDigits(b *strings.Builder, c byte) {
	const digits = "0123456789abcdef"
	b.WriteByte(digits[c>>4])
	b.WriteByte(digits[c&15])
}
