package clock_test

import (
	"math/rand"
	"testing"

	"chirograph/api"
	"chirograph/clock"
)

const (
	firstSecond = -62167219200 // 0000-01-01 00:00:00
	lastSecond  = 253402300799 // 9999-12-31 23:59:59
	firstUtc    = -631152000   // 1950-01-01 00:00:00
	lastUtc     = 2524607999   // 2049-12-31 23:59:59
)

func moment(year, month, day, hour, minute, second int) api.Moment {
	return api.Moment{Year: year, Month: month, Day: day, Hour: hour, Minute: minute, Second: second}
}

func pick[T any](r *rand.Rand, l ...T) T {
	return l[r.Intn(len(l))]
}

// between is a number by chance, both ends among them.
func between(r *rand.Rand, low, high int) int {
	return low + r.Intn(high-low+1)
}

// short shows the beginning of what may be long.
func short(b []byte) string {
	return string(b[:min(len(b), 60)])
}

// wantMoment asks both ways.
func wantMoment(t *testing.T, m api.Moment, sec int) {
	t.Helper()
	if got, e := clock.Seconds(m); got != sec || e != api.OK {
		t.Errorf("Seconds(%v): %d, error %d; wanted %d", m, got, e, sec)
	}
	if got, e := clock.Parts(sec); got != m || e != api.OK {
		t.Errorf("Parts(%d): %v, error %d; wanted %v", sec, got, e, m)
	}
}

func wantNoMoment(t *testing.T, m api.Moment) {
	t.Helper()
	if sec, e := clock.Seconds(m); sec != 0 || e != api.ErrTime {
		t.Errorf("Seconds(%v): %d, error %d", m, sec, e)
	}
}

func wantNoParts(t *testing.T, sec int) {
	t.Helper()
	if m, e := clock.Parts(sec); m != (api.Moment{}) || e != api.ErrTime {
		t.Errorf("Parts(%d): %v, error %d", sec, m, e)
	}
}

// wantUtc asks Utc, and Time, which tells the same of an element.
func wantUtc(t *testing.T, s []byte, sec int, e api.Errno) {
	t.Helper()
	if got, err := clock.Utc(s); got != sec || err != e {
		t.Errorf("Utc(%q): %d, error %d; wanted %d, error %d", short(s), got, err, sec, e)
	}
	wantTime(t, api.Tlv{Tag: api.TagUtc, Data: s}, sec, e)
}

// wantGeneral asks General alone: Time takes no point.
func wantGeneral(t *testing.T, s []byte, sec, micro int, e api.Errno) {
	t.Helper()
	if got, behind, err := clock.General(s); got != sec || behind != micro || err != e {
		t.Errorf("General(%q): %d, %d, error %d; wanted %d, %d, error %d", short(s), got, behind, err, sec, micro, e)
	}
}

func wantTime(t *testing.T, x api.Tlv, sec int, e api.Errno) {
	t.Helper()
	if got, err := clock.Time(x); got != sec || err != e {
		t.Errorf("Time(class %d, tag %d, %v, %q): %d, error %d; wanted %d, error %d", x.Class, x.Tag, x.Cons, short(x.Data), got, err, sec, e)
	}
}

func wantPutUtc(t *testing.T, sec int, s string, e api.Errno) {
	t.Helper()
	if b, err := clock.PutUtc(sec); string(b) != s || err != e {
		t.Errorf("PutUtc(%d): %q, error %d; wanted %q, error %d", sec, b, err, s, e)
	}
}

func wantPutGeneral(t *testing.T, sec, micro int, s string, e api.Errno) {
	t.Helper()
	if b, err := clock.PutGeneral(sec, micro); string(b) != s || err != e {
		t.Errorf("PutGeneral(%d, %d): %q, error %d; wanted %q, error %d", sec, micro, b, err, s, e)
	}
}
