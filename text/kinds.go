package text

import (
	"strings"
	"unicode/utf8"
)

const (
	blank          = ' '
	printableMarks = "'()+,-./:=?"

	endOfIa5     = 0x80
	firstVisible = 0x20
	lastVisible  = 0x7e
)

// all asks each character. A byte that is no UTF-8 is asked as
// utf8.RuneError, which none of the kinds below has.
func all(s string, has func(rune) bool) bool {
	for _, c := range s {
		if !has(c) {
			return false
		}
	}
	return true
}

func isGreat(c rune) bool {
	return 'A' <= c && c <= 'Z'
}

func isSmall(c rune) bool {
	return 'a' <= c && c <= 'z'
}

func isNumeric(c rune) bool {
	return '0' <= c && c <= '9' || c == blank
}

func isPrintable(c rune) bool {
	return isGreat(c) || isSmall(c) || isNumeric(c) || strings.ContainsRune(printableMarks, c)
}

func isIa5(c rune) bool {
	return c < endOfIa5
}

func isVisible(c rune) bool {
	return firstVisible <= c && c <= lastVisible
}

// fromPairs reads two bytes a character, the highest first.
func fromPairs(data []byte) (s string, ok bool) {
	if len(data)%2 != 0 {
		return "", false
	}
	var b strings.Builder
	for i := 0; i < len(data); i += 2 {
		c := rune(data[i])<<8 | rune(data[i+1])
		if !utf8.ValidRune(c) {
			return "", false
		}
		b.WriteRune(c)
	}
	return b.String(), true
}
