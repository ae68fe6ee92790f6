package clock_test

import (
	"bytes"
	"math/rand"
	"strings"
	"testing"

	"chirograph/api"
	"chirograph/clock"
)

// P5.2
func TestUtc(t *testing.T) {
	for _, x := range []struct {
		s   string
		sec int
		e   api.Errno
	}{
		{"700101000000Z", 0, api.OK},
		{"500101000000Z", firstUtc, api.OK},
		{"491231235959Z", lastUtc, api.OK},
		{"691231235959Z", -1, api.OK},
		{"991231235959Z", 946684799, api.OK},
		{"000101000000Z", 946684800, api.OK},
		{"000229000000Z", 951782400, api.OK},
		{"240229120000Z", 1709208000, api.OK},
		{"520229000000Z", -562982400, api.OK},

		{"230229000000Z", 0, api.ErrTime},
		{"000230000000Z", 0, api.ErrTime},
		{"000001000000Z", 0, api.ErrTime},
		{"001301000000Z", 0, api.ErrTime},
		{"000100000000Z", 0, api.ErrTime},
		{"000132000000Z", 0, api.ErrTime},
		{"000431000000Z", 0, api.ErrTime},
		{"000101240000Z", 0, api.ErrTime},
		{"000101006000Z", 0, api.ErrTime},
		{"000101000060Z", 0, api.ErrTime},
		{"000000000000Z", 0, api.ErrTime},
		{"999999999999Z", 0, api.ErrTime},

		{"", 0, api.ErrForm},
		{"Z", 0, api.ErrForm},
		{"7001010000Z", 0, api.ErrForm},
		{"70010100000Z", 0, api.ErrForm},
		{"7001010000000Z", 0, api.ErrForm},
		{"19700101000000Z", 0, api.ErrForm},
		{"700101000000", 0, api.ErrForm},
		{"7001010000000", 0, api.ErrForm},
		{"700101000000z", 0, api.ErrForm},
		{"700101000000ZZ", 0, api.ErrForm},
		{"700101000000Z ", 0, api.ErrForm},
		{"700101000000Z\x00", 0, api.ErrForm},
		{" 700101000000Z", 0, api.ErrForm},
		{" 00101000000Z", 0, api.ErrForm},
		{"-00101000000Z", 0, api.ErrForm},
		{"+00101000000Z", 0, api.ErrForm},
		{"700101000000+0000", 0, api.ErrForm},
		{"700101000000.5Z", 0, api.ErrForm},
		{"7001010000.0Z", 0, api.ErrForm},
		{"Z700101000000", 0, api.ErrForm},
		{"230229000000", 0, api.ErrForm},
		{"23022900000xZ", 0, api.ErrForm},
	} {
		wantUtc(t, []byte(x.s), x.sec, x.e)
	}
}

func TestGeneral(t *testing.T) {
	for _, x := range []struct {
		s          string
		sec, micro int
		e          api.Errno
	}{
		{"19700101000000Z", 0, 0, api.OK},
		{"00000101000000Z", firstSecond, 0, api.OK},
		{"99991231235959Z", lastSecond, 0, api.OK},
		{"99991231235959.999999Z", lastSecond, 999999, api.OK},
		{"00000101000000.000001Z", firstSecond, 1, api.OK},
		{"19691231235959.9Z", -1, 900000, api.OK},
		{"20240229120000Z", 1709208000, 0, api.OK},
		{"20240229120000.5Z", 1709208000, 500000, api.OK},
		{"20240229120000.05Z", 1709208000, 50000, api.OK},
		{"20240229120000.005Z", 1709208000, 5000, api.OK},
		{"20240229120000.0005Z", 1709208000, 500, api.OK},
		{"20240229120000.00005Z", 1709208000, 50, api.OK},
		{"20240229120000.000005Z", 1709208000, 5, api.OK},
		{"20240229120000.100001Z", 1709208000, 100001, api.OK},
		{"20240229120000.123456Z", 1709208000, 123456, api.OK},
		{"19500101000000Z", firstUtc, 0, api.OK},
		{"20491231235959Z", lastUtc, 0, api.OK},
		{"20500101000000Z", lastUtc + 1, 0, api.OK},
		{"00500101000000Z", -60589296000, 0, api.OK},

		{"20230229000000Z", 0, 0, api.ErrTime},
		{"20230229000000.5Z", 0, 0, api.ErrTime},
		{"19000229000000Z", 0, 0, api.ErrTime},
		{"20240230000000Z", 0, 0, api.ErrTime},
		{"20240001000000Z", 0, 0, api.ErrTime},
		{"20241301000000Z", 0, 0, api.ErrTime},
		{"20240100000000Z", 0, 0, api.ErrTime},
		{"20240101240000Z", 0, 0, api.ErrTime},
		{"20240101006000Z", 0, 0, api.ErrTime},
		{"20161231235960Z", 0, 0, api.ErrTime},
		{"20161231235960.5Z", 0, 0, api.ErrTime},
		{"00000000000000Z", 0, 0, api.ErrTime},
		{"99999999999999Z", 0, 0, api.ErrTime},

		{"", 0, 0, api.ErrForm},
		{"Z", 0, 0, api.ErrForm},
		{".Z", 0, 0, api.ErrForm},
		{".5Z", 0, 0, api.ErrForm},
		{"700101000000Z", 0, 0, api.ErrForm},
		{"1970010100Z", 0, 0, api.ErrForm},
		{"197001010000Z", 0, 0, api.ErrForm},
		{"1970010100000Z", 0, 0, api.ErrForm},
		{"197001010000000Z", 0, 0, api.ErrForm},
		{"1970010100000.5Z", 0, 0, api.ErrForm},
		{"197001010000000.5Z", 0, 0, api.ErrForm},
		{"19700101000000", 0, 0, api.ErrForm},
		{"19700101000000.5", 0, 0, api.ErrForm},
		{"19700101000000z", 0, 0, api.ErrForm},
		{"19700101000000ZZ", 0, 0, api.ErrForm},
		{"19700101000000Z.5", 0, 0, api.ErrForm},
		{"19700101000000Z.5Z", 0, 0, api.ErrForm},
		{"19700101000000+0000", 0, 0, api.ErrForm},
		{"19700101000000.Z", 0, 0, api.ErrForm},
		{"19700101000000,5Z", 0, 0, api.ErrForm},
		{"19700101000000..5Z", 0, 0, api.ErrForm},
		{"19700101000000.5.5Z", 0, 0, api.ErrForm},
		{"19700101000000.-5Z", 0, 0, api.ErrForm},
		{"19700101000000.5 Z", 0, 0, api.ErrForm},
		{"19700101000000.xZ", 0, 0, api.ErrForm},
		{"19700101000000.0Z", 0, 0, api.ErrForm},
		{"19700101000000.50Z", 0, 0, api.ErrForm},
		{"19700101000000.500000Z", 0, 0, api.ErrForm},
		{"19700101000000.000000Z", 0, 0, api.ErrForm},
		{"19700101000000.1234567Z", 0, 0, api.ErrForm},
		{"19700101000000.0000001Z", 0, 0, api.ErrForm},
		{"19700101000000.00000000000000000000000000001Z", 0, 0, api.ErrForm},
		{"20230229000000.50Z", 0, 0, api.ErrForm},
		{"20230229000000", 0, 0, api.ErrForm},
		{"-9700101000000Z", 0, 0, api.ErrForm},
		{" 19700101000000Z", 0, 0, api.ErrForm},
	} {
		wantGeneral(t, []byte(x.s), x.sec, x.micro, x.e)
		if x.micro == 0 && !strings.Contains(x.s, ".") {
			wantTime(t, api.Tlv{Tag: api.TagGeneral, Data: []byte(x.s)}, x.sec, x.e)
		}
	}
}

// All years of two digits, and each pair of two digits at each place of a
// moment.
func TestEachPair(t *testing.T) {
	for _, text := range []string{"000228000000Z", "960131235959Z", "20000229000000Z", "19960131235959Z", "19960131235959.999Z"} {
		for at := 0; at < strings.IndexAny(text, ".Z"); at += 2 {
			for n := range 100 {
				s := []byte(text)
				s[at], s[at+1] = byte('0'+n/10), byte('0'+n%10)
				askAll(t, s)
			}
		}
	}
}

// askAll holds all that reads against the second writing.
func askAll(t *testing.T, s []byte) {
	t.Helper()
	sec, e := modelUtc(s)
	wantUtc(t, s, sec, e)
	sec, micro, e := modelGeneral(s)
	wantGeneral(t, s, sec, micro, e)
	for _, tag := range []int{api.TagUtc, api.TagGeneral} {
		x := api.Tlv{Tag: tag, Data: s}
		sec, e = modelTime(x)
		wantTime(t, x, sec, e)
	}
}

// Every byte at every place, written over what stands there or put between.
func TestEachByte(t *testing.T) {
	for _, text := range []string{"240229120000Z", "20240229120000Z", "20240229120000.5Z", "20240229120000.12345Z", "20240229120000.123456Z"} {
		for at := range len(text) + 1 {
			for c := range 256 {
				askAll(t, []byte(text[:at]+string([]byte{byte(c)})+text[at:]))
				if at < len(text) {
					askAll(t, []byte(text[:at]+string([]byte{byte(c)})+text[at+1:]))
				}
			}
			askAll(t, []byte(text[:at]))
			askAll(t, []byte(text[at:]))
		}
	}
}

// Digits of other scripts, and bytes that are no text, are none.
func TestOtherDigits(t *testing.T) {
	for _, digit := range []string{"\u0660", "\u0967", "\uff11", "\U0001d7ce", "\u00b2", "\x80", "\xff", "\xc0\xb0", "\xed\xa0\x80"} {
		for at := range 14 {
			text := "20240229120000"
			wantGeneral(t, []byte(text[:at]+digit+text[at+1:]+"Z"), 0, 0, api.ErrForm)
			whole := strings.Repeat("1", 14)
			if n := 14 - len(digit); at <= n {
				wantGeneral(t, []byte(whole[:at]+digit+whole[at:n]+"Z"), 0, 0, api.ErrForm)
			}
			if n := 12 - len(digit); at <= n {
				wantUtc(t, []byte(whole[:at]+digit+whole[at:n]+"Z"), 0, api.ErrForm)
			}
		}
		wantGeneral(t, []byte("20240229120000."+digit+"Z"), 0, 0, api.ErrForm)
		wantGeneral(t, []byte("20240229120000"+digit+"5Z"), 0, 0, api.ErrForm)
	}
	wantGeneral(t, []byte("20240229120000\uff0e5Z"), 0, 0, api.ErrForm)
	wantUtc(t, []byte("240229120000\uff3a"), 0, api.ErrForm)
}

// All fractions of up to six digits.
func TestEachFraction(t *testing.T) {
	text := "20240229120000."
	for count, all := 1, 10; count <= 6; count, all = count+1, all*10 {
		scale := 1000000 / all
		for n := range all {
			s := []byte(text + strings.Repeat("0", count))
			for i, rest := len(s)-1, n; rest > 0; i, rest = i-1, rest/10 {
				s[i] = byte('0' + rest%10)
			}
			if n%10 == 0 {
				wantGeneral(t, append(s, 'Z'), 0, 0, api.ErrForm)
			} else {
				wantGeneral(t, append(s, 'Z'), 1709208000, n*scale, api.OK)
			}
		}
	}
}

func TestLongTexts(t *testing.T) {
	for _, n := range []int{13, 19, 20, 22, 1000, 1 << 20} {
		digits := bytes.Repeat([]byte("1"), n)
		wantUtc(t, append(digits, 'Z'), 0, api.ErrForm)
		if n != 14 {
			wantGeneral(t, append(digits, 'Z'), 0, 0, api.ErrForm)
		}
		wantGeneral(t, append(append([]byte("20240229120000."), digits...), 'Z'), 0, 0, api.ErrForm)
		wantUtc(t, append(digits[:12:12], bytes.Repeat([]byte("Z"), n)...), 0, api.ErrForm)
	}
}

func TestTextsByChance(t *testing.T) {
	r := rand.New(rand.NewSource(53))
	for range 300000 {
		var s []byte
		for range pick(r, 12, 14, 14, between(r, 0, 20)) {
			s = append(s, byte('0'+r.Intn(pick(r, 2, 3, 10))))
		}
		if r.Intn(2) == 0 {
			s = append(s, '.')
			for range r.Intn(8) {
				s = append(s, byte('0'+r.Intn(10)))
			}
		}
		askAll(t, append(s, "Z"[:min(1, r.Intn(20))]...))
		if t.Failed() {
			return
		}
	}
}

// P5.4: all classes and tags, Cons or not.
func TestTimeOfElements(t *testing.T) {
	utc, general := []byte("240229120000Z"), []byte("20240229120000Z")
	for class := -1; class <= 4; class++ {
		for tag := -1; tag <= 300; tag++ {
			for _, cons := range []bool{false, true} {
				sec, e := 0, api.ErrTag
				sec2, e2 := 0, api.ErrTag
				if class == 0 && !cons && tag == 23 {
					sec, e, e2 = 1709208000, api.OK, api.ErrForm
				}
				if class == 0 && !cons && tag == 24 {
					sec2, e, e2 = 1709208000, api.ErrForm, api.OK
				}
				wantTime(t, api.Tlv{Class: class, Tag: tag, Cons: cons, Data: utc}, sec, e)
				wantTime(t, api.Tlv{Class: class, Tag: tag, Cons: cons, Data: general}, sec2, e2)
			}
		}
	}
	wantTime(t, api.Tlv{}, 0, api.ErrTag)
}

// A point is refused wherever it stands, also where General tells no moment;
// an element that is none of the two is refused ahead of what it has.
func TestTimeWithAPoint(t *testing.T) {
	for _, s := range []string{"20240229120000.5Z", "20240229120000.000001Z", "20240229120000.50Z", "20240229120000.Z", "20230229000000.5Z", "20161231235960.5Z", ".", ".Z"} {
		wantTime(t, api.Tlv{Tag: api.TagGeneral, Data: []byte(s)}, 0, api.ErrForm)
		wantTime(t, api.Tlv{Tag: api.TagUtc, Data: []byte(s)}, 0, api.ErrForm)
		wantTime(t, api.Tlv{Tag: api.TagGeneral, Cons: true, Data: []byte(s)}, 0, api.ErrTag)
		wantTime(t, api.Tlv{Class: api.Context, Tag: api.TagGeneral, Data: []byte(s)}, 0, api.ErrTag)
	}
	wantTime(t, api.Tlv{Tag: api.TagGeneral, Data: []byte("20230229000000Z")}, 0, api.ErrTime)
	wantTime(t, api.Tlv{Tag: api.TagUtc, Data: []byte("230229000000Z")}, 0, api.ErrTime)
	wantTime(t, api.Tlv{Class: api.Private, Tag: api.TagUtc, Data: []byte("230229000000Z")}, 0, api.ErrTag)
}

// Only Data is read.
func TestTimeOfData(t *testing.T) {
	x := api.Tlv{Tag: api.TagUtc, Data: []byte("240229120000Z"), Raw: []byte("\x17\x0d700101000000Z")}
	wantTime(t, x, 1709208000, api.OK)
	wantTime(t, api.Tlv{Tag: api.TagUtc, Raw: []byte("\x17\x0d700101000000Z")}, 0, api.ErrForm)
	if sec, micro, e := clock.General(nil); sec != 0 || micro != 0 || e != api.ErrForm {
		t.Error(sec, micro, e)
	}
}
