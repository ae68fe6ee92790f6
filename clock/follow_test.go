package clock_test

import (
	"math/rand"
	"testing"

	"chirograph/api"
	"chirograph/clock"
	"chirograph/der"
)

// isLater holds two moments against each other, part by part.
func isLater(m, n api.Moment) bool {
	for i := range 6 {
		if *part(&m, i) != *part(&n, i) {
			return *part(&m, i) > *part(&n, i)
		}
	}
	return false
}

// next is the moment a second on.
func next(m api.Moment) api.Moment {
	m.Second++
	if m.Second == 60 {
		m.Minute, m.Second = m.Minute+1, 0
	}
	if m.Minute == 60 {
		m.Hour, m.Minute = m.Hour+1, 0
	}
	if m.Hour == 24 {
		m.Day, m.Hour = m.Day+1, 0
	}
	if m.Day > monthDays(m.Year, m.Month) {
		m.Month, m.Day = m.Month+1, 1
	}
	if m.Month == 13 {
		m.Year, m.Month = m.Year+1, 1
	}
	return m
}

// P5.5: Parts undoes Seconds; the next second's moment is the next one.
func TestNextSecond(t *testing.T) {
	r := rand.New(rand.NewSource(54))
	for range 200000 {
		sec := between(r, firstSecond, lastSecond-1)
		if r.Intn(2) == 0 { // the last second of a day
			sec = sec/86400*86400 - 1
		}
		if sec < firstSecond {
			continue
		}
		m, e := clock.Parts(sec)
		if e != api.OK {
			t.Fatalf("Parts(%d): error %d", sec, e)
		}
		wantMoment(t, m, sec)
		wantMoment(t, next(m), sec+1)
	}
}

// P5.5: a later moment has more seconds.
func TestLaterHasMore(t *testing.T) {
	r := rand.New(rand.NewSource(55))
	for range 200000 {
		a := between(r, firstSecond, lastSecond)
		b := between(r, firstSecond, lastSecond)
		if r.Intn(2) == 0 {
			b = min(max(a+between(r, -200000, 200000), firstSecond), lastSecond)
		}
		m, _ := clock.Parts(a)
		n, _ := clock.Parts(b)
		if isLater(m, n) != (a > b) || isLater(n, m) != (b > a) || (m == n) != (a == b) {
			t.Fatalf("%v has %d seconds, %v has %d", m, a, n, b)
		}
		x, _ := clock.Seconds(m)
		y, _ := clock.Seconds(n)
		if x != a || y != b {
			t.Fatalf("%v has %d seconds, %v has %d", m, x, n, y)
		}
	}
}

// P5.6: what is put is read, of elements too.
func TestPutIsRead(t *testing.T) {
	r := rand.New(rand.NewSource(56))
	for range 200000 {
		sec, micro := between(r, firstSecond, lastSecond), pick(r, 0, r.Intn(1000000), r.Intn(1000)*1000)
		b, e := clock.PutGeneral(sec, micro)
		if e != api.OK {
			t.Fatalf("PutGeneral(%d, %d): error %d", sec, micro, e)
		}
		wantGeneral(t, b, sec, micro, api.OK)
		if micro == 0 {
			wantTime(t, element(t, api.TagGeneral, b), sec, api.OK)
		} else {
			wantTime(t, element(t, api.TagGeneral, b), 0, api.ErrForm)
		}
		sec = between(r, firstUtc, lastUtc)
		b, e = clock.PutUtc(sec)
		if e != api.OK {
			t.Fatalf("PutUtc(%d): error %d", sec, e)
		}
		wantUtc(t, b, sec, api.OK)
		wantTime(t, element(t, api.TagUtc, b), sec, api.OK)
	}
}

// element is laid and taken apart again by chapter 4.
func element(t *testing.T, tag int, data []byte) api.Tlv {
	t.Helper()
	b, e := der.Put(api.Universal, tag, false, data)
	if e != api.OK {
		t.Fatal(e)
	}
	x, e := der.One(b)
	if e != api.OK {
		t.Fatal(e)
	}
	return x
}

// What is read and put again is what it was: there is one way to write a
// moment.
func TestReadIsPut(t *testing.T) {
	for _, s := range []string{"500101000000Z", "491231235959Z", "000229010203Z", "991231235959Z"} {
		sec, e := clock.Utc([]byte(s))
		if e != api.OK {
			t.Fatal(s, e)
		}
		wantPutUtc(t, sec, s, api.OK)
	}
	for _, s := range []string{"00000101000000Z", "99991231235959.999999Z", "20240229120000.5Z", "19491231235959.000001Z", "20500101000000.10203Z"} {
		sec, micro, e := clock.General([]byte(s))
		if e != api.OK {
			t.Fatal(s, e)
		}
		wantPutGeneral(t, sec, micro, s, api.OK)
	}
}
