package clock_test

import (
	"regexp"
	"strconv"
	"strings"
	"time"

	"chirograph/api"
)

// A second writing of the chapter, in other ways: days of months by a table,
// seconds by package time, texts by expressions.

func isLeap(year int) bool {
	return year%4 == 0 && (year%100 != 0 || year%400 == 0)
}

func monthDays(year, month int) int {
	if month == 2 && isLeap(year) {
		return 29
	}
	return []int{31, 28, 31, 30, 31, 30, 31, 31, 30, 31, 30, 31}[month-1]
}

func isMoment(m api.Moment) bool {
	for _, x := range []struct{ part, low, high int }{{m.Year, 0, 9999}, {m.Month, 1, 12}, {m.Day, 1, 31}, {m.Hour, 0, 23}, {m.Minute, 0, 59}, {m.Second, 0, 59}} {
		if x.part < x.low || x.part > x.high {
			return false
		}
	}
	return m.Day <= monthDays(m.Year, m.Month)
}

func modelSeconds(m api.Moment) (int, api.Errno) {
	if !isMoment(m) {
		return 0, api.ErrTime
	}
	return int(time.Date(m.Year, time.Month(m.Month), m.Day, m.Hour, m.Minute, m.Second, 0, time.UTC).Unix()), api.OK
}

func modelParts(sec int) (api.Moment, api.Errno) {
	if sec < firstSecond || sec > lastSecond {
		return api.Moment{}, api.ErrTime
	}
	x := time.Unix(int64(sec), 0).UTC()
	return moment(x.Year(), int(x.Month()), x.Day(), x.Hour(), x.Minute(), x.Second()), api.OK
}

var (
	utcForm     = regexp.MustCompile(`\A([0-9]{2})([0-9]{2})([0-9]{2})([0-9]{2})([0-9]{2})([0-9]{2})Z\z`)
	generalForm = regexp.MustCompile(`\A([0-9]{4})([0-9]{2})([0-9]{2})([0-9]{2})([0-9]{2})([0-9]{2})(?:\.([0-9]{0,5}[1-9]))?Z\z`)
)

func numbers(l []string) api.Moment {
	var n [6]int
	for i := range n {
		n[i], _ = strconv.Atoi(l[i])
	}
	return moment(n[0], n[1], n[2], n[3], n[4], n[5])
}

func modelUtc(s []byte) (int, api.Errno) {
	l := utcForm.FindStringSubmatch(string(s))
	if l == nil {
		return 0, api.ErrForm
	}
	m := numbers(l[1:])
	if m.Year >= 50 {
		m.Year += 1900
	} else {
		m.Year += 2000
	}
	return modelSeconds(m)
}

func modelGeneral(s []byte) (sec, micro int, e api.Errno) {
	l := generalForm.FindStringSubmatch(string(s))
	if l == nil {
		return 0, 0, api.ErrForm
	}
	sec, e = modelSeconds(numbers(l[1:]))
	if e != api.OK {
		return 0, 0, e
	}
	micro, _ = strconv.Atoi((l[7] + "000000")[:6])
	return sec, micro, api.OK
}

func modelTime(x api.Tlv) (int, api.Errno) {
	switch {
	case x.Class == api.Universal && !x.Cons && x.Tag == api.TagUtc:
		return modelUtc(x.Data)
	case x.Class != api.Universal || x.Cons || x.Tag != api.TagGeneral:
		return 0, api.ErrTag
	case strings.Contains(string(x.Data), "."):
		return 0, api.ErrForm
	}
	sec, _, e := modelGeneral(x.Data)
	return sec, e
}
