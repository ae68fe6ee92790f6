package clock_test

import (
	"math"
	"testing"

	"chirograph/api"
)

// P5.3
func TestPutUtc(t *testing.T) {
	for _, x := range []struct {
		sec int
		s   string
	}{
		{0, "700101000000Z"},
		{-1, "691231235959Z"},
		{firstUtc, "500101000000Z"},
		{lastUtc, "491231235959Z"},
		{946684799, "991231235959Z"},
		{946684800, "000101000000Z"},
		{951782400, "000229000000Z"},
		{1000000000, "010909014640Z"},
		{1709208000, "240229120000Z"},
	} {
		wantPutUtc(t, x.sec, x.s, api.OK)
	}
	for _, sec := range []int{firstUtc - 1, lastUtc + 1, firstUtc - 86400*366, lastUtc + 86400*366, firstSecond, firstSecond - 1, lastSecond, lastSecond + 1, math.MinInt, math.MaxInt} {
		wantPutUtc(t, sec, "", api.ErrTime)
	}
}

func TestPutGeneral(t *testing.T) {
	for _, x := range []struct {
		sec, micro int
		s          string
	}{
		{0, 0, "19700101000000Z"},
		{0, 120, "19700101000000.00012Z"},
		{0, 1, "19700101000000.000001Z"},
		{0, 10, "19700101000000.00001Z"},
		{0, 100, "19700101000000.0001Z"},
		{0, 1000, "19700101000000.001Z"},
		{0, 10000, "19700101000000.01Z"},
		{0, 100000, "19700101000000.1Z"},
		{0, 500000, "19700101000000.5Z"},
		{0, 100001, "19700101000000.100001Z"},
		{-1, 999999, "19691231235959.999999Z"},
		{1709208000, 500000, "20240229120000.5Z"},
		{1000000000, 0, "20010909014640Z"},
		{firstUtc - 1, 0, "19491231235959Z"},
		{lastUtc + 1, 0, "20500101000000Z"},
		{firstSecond, 0, "00000101000000Z"},
		{firstSecond, 999990, "00000101000000.99999Z"},
		{-60589296000, 0, "00500101000000Z"},
		{lastSecond, 0, "99991231235959Z"},
		{lastSecond, 999999, "99991231235959.999999Z"},
	} {
		wantPutGeneral(t, x.sec, x.micro, x.s, api.OK)
	}
}

// ErrArg is told ahead of ErrTime.
func TestPutGeneralRefused(t *testing.T) {
	for _, sec := range []int{firstSecond - 1, lastSecond + 1, math.MinInt, math.MaxInt} {
		for _, micro := range []int{0, 1, 500000, 999999} {
			wantPutGeneral(t, sec, micro, "", api.ErrTime)
		}
	}
	for _, micro := range []int{-1, -999999, 1000000, 1000001, math.MinInt, math.MaxInt} {
		for _, sec := range []int{0, firstSecond, lastSecond, firstSecond - 1, lastSecond + 1, math.MinInt, math.MaxInt} {
			wantPutGeneral(t, sec, micro, "", api.ErrArg)
		}
	}
}
