package clock_test

import (
	"math"
	"math/rand"
	"testing"

	"chirograph/api"
	"chirograph/clock"
)

// P5.1: moments that are known, among them the ends of the calendar.
func TestMoments(t *testing.T) {
	wantMoment(t, moment(1970, 1, 1, 0, 0, 0), 0)
	wantMoment(t, moment(1970, 1, 1, 0, 0, 1), 1)
	wantMoment(t, moment(1970, 1, 1, 0, 1, 0), 60)
	wantMoment(t, moment(1970, 1, 1, 1, 0, 0), 3600)
	wantMoment(t, moment(1970, 1, 2, 0, 0, 0), 86400)
	wantMoment(t, moment(1970, 2, 1, 0, 0, 0), 31*86400)
	wantMoment(t, moment(1971, 1, 1, 0, 0, 0), 365*86400)
	wantMoment(t, moment(1969, 12, 31, 23, 59, 59), -1)
	wantMoment(t, moment(1969, 12, 31, 0, 0, 0), -86400)
	wantMoment(t, moment(2000, 2, 29, 23, 59, 59), 951868799)
	wantMoment(t, moment(2000, 3, 1, 0, 0, 0), 951868800)
	wantMoment(t, moment(2001, 9, 9, 1, 46, 40), 1000000000)
	wantMoment(t, moment(2038, 1, 19, 3, 14, 8), 1<<31)
	wantMoment(t, moment(1901, 12, 13, 20, 45, 51), -1<<31-1)
	wantMoment(t, moment(2024, 2, 29, 12, 0, 0), 1709208000)
	wantMoment(t, moment(0, 1, 1, 0, 0, 0), firstSecond)
	wantMoment(t, moment(0, 2, 29, 0, 0, 0), firstSecond+59*86400)
	wantMoment(t, moment(0, 3, 1, 0, 0, 0), firstSecond+60*86400)
	wantMoment(t, moment(9999, 12, 31, 23, 59, 59), lastSecond)
}

// Every day of the calendar, gone through one by one, and the days of which a
// month has none.
func TestEveryDay(t *testing.T) {
	begins := firstSecond
	for year := range 10000 {
		for month := 1; month <= 12; month++ {
			days := monthDays(year, month)
			for day := 1; day <= days; day++ {
				rest := begins / 86400 * 7919 % 86400
				if rest < 0 {
					rest += 86400
				}
				wantMoment(t, moment(year, month, day, rest/3600, rest/60%60, rest%60), begins+rest)
				begins += 86400
			}
			wantNoMoment(t, moment(year, month, 0, 0, 0, 0))
			for day := days + 1; day <= 32; day++ {
				wantNoMoment(t, moment(year, month, day, 0, 0, 0))
			}
		}
		wantNoMoment(t, moment(year, 0, 1, 0, 0, 0))
		wantNoMoment(t, moment(year, 13, 1, 0, 0, 0))
		if t.Failed() {
			t.FailNow()
		}
	}
	if begins != lastSecond+1 {
		t.Errorf("the calendar ends at %d", begins)
	}
}

func TestLeapDays(t *testing.T) {
	for _, year := range []int{0, 4, 400, 1600, 1904, 1996, 2000, 2024, 2400, 9996} {
		if sec, e := clock.Seconds(moment(year, 2, 29, 0, 0, 0)); e != api.OK {
			t.Errorf("%d: %d, error %d", year, sec, e)
		}
		wantNoMoment(t, moment(year, 2, 30, 0, 0, 0))
	}
	for _, year := range []int{1, 2, 3, 100, 200, 300, 1700, 1900, 2023, 2100, 9900, 9999} {
		wantNoMoment(t, moment(year, 2, 29, 0, 0, 0))
	}
}

func TestEverySecondOfADay(t *testing.T) {
	for _, x := range []api.Moment{moment(1970, 1, 1, 0, 0, 0), moment(0, 1, 1, 0, 0, 0), moment(9999, 12, 31, 0, 0, 0), moment(1600, 2, 29, 0, 0, 0)} {
		begins, e := clock.Seconds(x)
		if e != api.OK {
			t.Fatal(x, e)
		}
		for s := range 86400 {
			x.Hour, x.Minute, x.Second = s/3600, s/60%60, s%60
			wantMoment(t, x, begins+s)
		}
	}
}

// part is one of a moment's parts, by its number.
func part(m *api.Moment, i int) *int {
	return []*int{&m.Year, &m.Month, &m.Day, &m.Hour, &m.Minute, &m.Second}[i]
}

// Each part beyond its bounds, the others within: by one, by as much as may be,
// and by as much as makes the seconds wrap round to the right ones.
func TestPartsBeyondBounds(t *testing.T) {
	low := moment(0, 1, 1, 0, 0, 0)
	high := moment(9999, 12, 31, 23, 59, 59)
	for _, good := range []api.Moment{low, high, moment(1970, 1, 1, 0, 0, 0), moment(2000, 2, 29, 12, 30, 30)} {
		if _, e := clock.Seconds(good); e != api.OK {
			t.Fatal(good, e)
		}
		for i := range 6 {
			m := good
			p := part(&m, i)
			was := *p
			for _, n := range []int{*part(&low, i) - 1, *part(&high, i) + 1, -1, -was - 1, 100000, math.MinInt, math.MinInt + 1, math.MaxInt, math.MaxInt - 1} {
				*p = n
				wantNoMoment(t, m)
			}
			for shift := 14; shift < 64; shift++ {
				*p = was + 1<<shift
				wantNoMoment(t, m)
				*p = was - 1<<shift
				wantNoMoment(t, m)
			}
		}
	}
	wantNoMoment(t, api.Moment{})
}

// A part too many where the next greater one has one too few is no moment, though
// the seconds are those of one.
func TestPartsThatMakeUp(t *testing.T) {
	wantNoMoment(t, moment(1970, 1, 1, 0, -1, 60))
	wantNoMoment(t, moment(1970, 1, 1, 0, 0, 60))
	wantNoMoment(t, moment(2000, 1, 1, 0, 60, 0))
	wantNoMoment(t, moment(2000, 1, 1, 24, 0, 0))
	wantNoMoment(t, moment(2000, 1, 2, -24, 0, 0))
	wantNoMoment(t, moment(2016, 12, 31, 23, 59, 60))
	wantNoMoment(t, moment(2000, 1, 32, 0, 0, 0))
	wantNoMoment(t, moment(2000, 2, 0, 0, 0, 0))
	wantNoMoment(t, moment(2000, 0, 31, 0, 0, 0))
	wantNoMoment(t, moment(1999, 13, 1, 0, 0, 0))
	wantNoMoment(t, moment(2001, -11, 1, 0, 0, 0))
	wantNoMoment(t, moment(-1, 13, 1, 0, 0, 0))
	wantNoMoment(t, moment(10000, 0, 1, 0, 0, 0))
	wantNoMoment(t, moment(0, 1, 1, 0, 0, -1))
	wantNoMoment(t, moment(10000, 1, 1, 0, 0, -1))
}

func TestSecondsBeyondTheCalendar(t *testing.T) {
	for i := range 100000 {
		wantNoParts(t, firstSecond-1-i)
		wantNoParts(t, lastSecond+1+i)
	}
	for shift := 38; shift < 64; shift++ {
		wantNoParts(t, -1<<shift)
		wantNoParts(t, 1<<shift-1)
	}
	wantNoParts(t, math.MinInt)
	wantNoParts(t, math.MinInt+1)
	wantNoParts(t, math.MaxInt)
}

func TestSecondsByChance(t *testing.T) {
	r := rand.New(rand.NewSource(51))
	for range 300000 {
		sec := between(r, firstSecond-1000, lastSecond+1000)
		if r.Intn(4) == 0 {
			sec = int(r.Uint64()) >> r.Intn(64)
		}
		m, e := clock.Parts(sec)
		want, err := modelParts(sec)
		if m != want || e != err {
			t.Fatalf("Parts(%d): %v, error %d; wanted %v, error %d", sec, m, e, want, err)
		}
	}
}

func TestMomentsByChance(t *testing.T) {
	r := rand.New(rand.NewSource(52))
	right := 0
	for range 300000 {
		m := moment(between(r, -1, 10000), between(r, 0, 13), between(r, 0, 32), between(r, -1, 24), between(r, -1, 60), between(r, -1, 60))
		if r.Intn(8) == 0 {
			*part(&m, r.Intn(6)) = int(r.Uint64()) >> r.Intn(64)
		}
		sec, e := clock.Seconds(m)
		want, err := modelSeconds(m)
		if sec != want || e != err {
			t.Fatalf("Seconds(%v): %d, error %d; wanted %d, error %d", m, sec, e, want, err)
		}
		if e == api.OK {
			right++
		}
	}
	if right < 1000 {
		t.Errorf("only %d were moments", right)
	}
}
