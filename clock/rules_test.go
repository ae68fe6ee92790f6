package clock_test

import (
	"slices"
	"testing"

	"chirograph/api"
	"chirograph/clock"
)

// roomy has spare room in which something stands.
func roomy(s string) []byte {
	return append([]byte(s), "0Z.123456"...)[:len(s)]
}

func whole(b []byte) []byte {
	return b[:cap(b)]
}

// The rule of memory: what is handed in stays as it is, spare room too, and
// spare room plays no part in the answer.
func TestArgumentsStay(t *testing.T) {
	for _, s := range []string{"", "240229120000Z", "24022912000", "240229120000", "20240229120000", "20240229120000Z", "20240229120000.", "20240229120000.5Z", "20240229120000.50Z", "230229000000Z", "20230229000000.5Z"} {
		b, raw := roomy(s), roomy("raw")
		was, rawWas := slices.Clone(whole(b)), slices.Clone(whole(raw))
		askAll(t, b)
		clock.Time(api.Tlv{Tag: api.TagUtc, Data: b, Raw: raw})
		clock.Time(api.Tlv{Tag: api.TagGeneral, Data: b, Raw: raw})
		clock.Time(api.Tlv{Tag: api.TagOctets, Data: b, Raw: raw})
		if !slices.Equal(whole(b), was) || !slices.Equal(whole(raw), rawWas) {
			t.Errorf("%q: the argument was changed", s)
		}
	}
}

// Two answers share no memory, spare room too.
func TestAnswersStandApart(t *testing.T) {
	for i, f := range []func() []byte{
		func() []byte { b, _ := clock.PutUtc(0); return b },
		func() []byte { b, _ := clock.PutGeneral(0, 0); return b },
		func() []byte { b, _ := clock.PutGeneral(lastSecond, 999999); return b },
	} {
		a, b := f(), f()
		was := slices.Clone(whole(b))
		for j := range whole(a) {
			whole(a)[j] ^= 0xff
		}
		if !slices.Equal(whole(b), was) || !slices.Equal(f(), b) {
			t.Errorf("answers of function %d share memory", i)
		}
	}
}

// Nil and empty lists are alike; what is asked twice is answered alike.
func TestNilAndEmpty(t *testing.T) {
	for _, b := range [][]byte{nil, {}, nil} {
		wantUtc(t, b, 0, api.ErrForm)
		wantGeneral(t, b, 0, 0, api.ErrForm)
		wantTime(t, api.Tlv{Tag: api.TagGeneral, Data: b}, 0, api.ErrForm)
		wantTime(t, api.Tlv{Data: b, Raw: b}, 0, api.ErrTag)
	}
}
