package clock

import "chirograph/api"

const (
	firstSecond = -62167219200 // 0000-01-01 00:00:00
	lastSecond  = 253402300799 // 9999-12-31 23:59:59

	daySeconds = 86400
)

// In here a year begins with March, so that a leap day is its last one and
// moves no month; and years are counted from 400 ahead of the year 0 on (after
// so many the calendar is the same again), so that none is below 0.
const (
	yearsAhead = 400
	daysAhead  = 865565 // from then on to 1970-01-01
)

func yearBegins(year int) int {
	return 365*year + year/4 - year/100 + year/400
}

// monthBegins counts months from 0 on. From March on five of them have 153
// days, over and over, of which the first, third and fifth have 31.
func monthBegins(month int) int {
	return (153*month + 2) / 5
}

func reckoned(m api.Moment) int {
	year, month := m.Year+yearsAhead, m.Month-3
	if month < 0 {
		year, month = year-1, month+12
	}
	day := yearBegins(year) + monthBegins(month) + m.Day - 1 - daysAhead
	return day*daySeconds + m.Hour*3600 + m.Minute*60 + m.Second
}

func momentAt(sec int) api.Moment {
	sec += daysAhead * daySeconds
	m := dayAt(sec / daySeconds)
	sec %= daySeconds
	m.Hour, m.Minute, m.Second = sec/3600, sec/60%60, sec%60
	return m
}

func dayAt(day int) api.Moment {
	year := day / 366 // no year has more days: it is this one or a later one
	for yearBegins(year+1) <= day {
		year++
	}
	day -= yearBegins(year)
	month := day / 31
	for monthBegins(month+1) <= day {
		month++
	}
	day -= monthBegins(month)
	year, month = year-yearsAhead, month+3
	if month > 12 {
		year, month = year+1, month-12
	}
	return api.Moment{Year: year, Month: month, Day: day + 1}
}
