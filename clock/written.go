package clock

import (
	"strconv"
	"strings"

	"chirograph/api"
)

const (
	utcDigits     = 12
	generalDigits = 14
	pointDigits   = 6
	millionths    = 1000000

	firstUtcYear = 1950
	lastUtcYear  = 2049
)

// A moment is written as one number: its year, and two digits of each other
// part behind it.

func cut(n int) api.Moment {
	date, time := n/1000000, n%1000000
	return api.Moment{
		Year:   date / 10000,
		Month:  date / 100 % 100,
		Day:    date % 100,
		Hour:   time / 10000,
		Minute: time / 100 % 100,
		Second: time % 100,
	}
}

func joined(m api.Moment) int {
	date := m.Year*10000 + m.Month*100 + m.Day
	time := m.Hour*10000 + m.Minute*100 + m.Second
	return date*1000000 + time
}

func utcMoment(s string) (m api.Moment, ok bool) {
	s, z := strings.CutSuffix(s, "Z")
	n, ok := number(s, utcDigits)
	if !z || !ok {
		return api.Moment{}, false
	}
	m = cut(n)
	m.Year += 1900
	if m.Year < firstUtcYear {
		m.Year += 100
	}
	return m, true
}

func generalMoment(s string) (m api.Moment, micro int, ok bool) {
	s, z := strings.CutSuffix(s, "Z")
	s, behind, point := strings.Cut(s, ".")
	n, ok := number(s, generalDigits)
	if ok && point {
		micro, ok = millionthsOf(behind)
	}
	if !z || !ok {
		return api.Moment{}, 0, false
	}
	return cut(n), micro, true
}

func millionthsOf(s string) (n int, ok bool) {
	if len(s) < 1 || len(s) > pointDigits || strings.HasSuffix(s, "0") {
		return 0, false
	}
	return number(s+strings.Repeat("0", pointDigits-len(s)), pointDigits)
}

// fraction has no last 0, and no point where nothing stands behind it.
func fraction(micro int) string {
	if micro == 0 {
		return ""
	}
	return "." + strings.TrimRight(digits(micro, pointDigits), "0")
}

// number reads so many digits and nothing else.
func number(s string, count int) (n int, ok bool) {
	if len(s) != count {
		return 0, false
	}
	for _, c := range s {
		if c < '0' || c > '9' {
			return 0, false
		}
		n = 10*n + int(c-'0')
	}
	return n, true
}

// digits writes so many of them.
func digits(n, count int) string {
	s := strconv.Itoa(n)
	return strings.Repeat("0", count-len(s)) + s
}
