package text_test

import (
	"fmt"
	"regexp"
	"strings"

	"chirograph/api"
)

// A second writing of the chapter, in other ways: UTF-8 by a table of ranges,
// the other kinds by expressions, folding by words.

// utf8Ways are the rows of bytes that are a character in the shortest way,
// none from d800 to dfff.
func utf8Ways() [][][2]byte {
	tail := [2]byte{0x80, 0xbf}
	return [][][2]byte{
		{{0x00, 0x7f}},
		{{0xc2, 0xdf}, tail},
		{{0xe0, 0xe0}, {0xa0, 0xbf}, tail},
		{{0xe1, 0xec}, tail, tail},
		{{0xed, 0xed}, {0x80, 0x9f}, tail},
		{{0xee, 0xef}, tail, tail},
		{{0xf0, 0xf0}, {0x90, 0xbf}, tail, tail},
		{{0xf1, 0xf3}, tail, tail, tail},
		{{0xf4, 0xf4}, {0x80, 0x8f}, tail, tail},
	}
}

func fits(data string, way [][2]byte) bool {
	if len(data) < len(way) {
		return false
	}
	for i, x := range way {
		if data[i] < x[0] || data[i] > x[1] {
			return false
		}
	}
	return true
}

func isUtf8(data string) bool {
	ways := utf8Ways()
	for data != "" {
		size := 0
		for _, way := range ways {
			if fits(data, way) {
				size = len(way)
			}
		}
		if size == 0 {
			return false
		}
		data = data[size:]
	}
	return true
}

var (
	numericForm   = regexp.MustCompile(`\A[0-9 ]*\z`)
	printableForm = regexp.MustCompile(`\A[A-Za-z0-9 '()+,\-./:=?]*\z`)
	ia5Form       = regexp.MustCompile(`\A[\x00-\x7f]*\z`)
	visibleForm   = regexp.MustCompile(`\A[\x20-\x7e]*\z`)
)

func modelPairs(data string) (string, bool) {
	s := ""
	for ; len(data) >= 2; data = data[2:] {
		c := int(data[0])*256 + int(data[1])
		if c >= 0xd800 && c < 0xe000 {
			return "", false
		}
		switch {
		case c < 0x80:
			s += string([]byte{byte(c)})
		case c < 0x800:
			s += string([]byte{0xc0 + byte(c/64), 0x80 + byte(c%64)})
		default:
			s += string([]byte{0xe0 + byte(c/4096), 0x80 + byte(c/64%64), 0x80 + byte(c%64)})
		}
	}
	return s, data == ""
}

func modelText(tag int, data string) (string, api.Errno) {
	s, ok := data, false
	switch tag {
	case 12:
		ok = isUtf8(data)
	case 18:
		ok = numericForm.MatchString(data)
	case 19:
		ok = printableForm.MatchString(data)
	case 22:
		ok = ia5Form.MatchString(data)
	case 26:
		ok = visibleForm.MatchString(data)
	case 30:
		s, ok = modelPairs(data)
	default:
		return "", api.ErrKind
	}
	if !ok {
		return "", api.ErrChar
	}
	return s, api.OK
}

func modelFold(s string) string {
	var words []string
	for _, w := range strings.Split(s, " ") {
		b := []byte(w)
		for i, c := range b {
			if c >= 'A' && c <= 'Z' {
				b[i] = c + 32
			}
		}
		if len(b) > 0 {
			words = append(words, string(b))
		}
	}
	return strings.Join(words, " ")
}

func modelKey(tag int, data string) string {
	if s, e := modelText(tag, data); e == api.OK {
		return "=" + modelFold(s)
	}
	return fmt.Sprintf("#%d:%s", tag, data)
}
