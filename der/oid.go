package der

import (
	"slices"
	"strconv"

	"chirograph/api"
)

// Oid: an object identifier.
func Oid(data []byte) (string, api.Errno) {
	l, ok := laidArcs(data)
	if !ok {
		return "", api.ErrForm
	}
	x := min(l[0]/40, 2)
	l[0] -= 40 * x
	if slices.Max(l) > api.MaxArc {
		return "", api.ErrLong
	}
	s := strconv.AppendUint(nil, x, 10)
	for _, n := range l {
		s = append(s, '.')
		s = strconv.AppendUint(s, n, 10)
	}
	return string(s), api.OK
}

// PutOid: its bytes.
func PutOid(s string) ([]byte, api.Errno) {
	l, ok := writtenArcs(s)
	if !ok || len(l) < 2 || l[0] > 2 || l[0] < 2 && l[1] >= 40 {
		return nil, api.ErrForm
	}
	if slices.Max(l) > api.MaxArc {
		return nil, api.ErrLong
	}
	b := appendSevens(nil, 40*l[0]+l[1])
	for _, n := range l[2:] {
		b = appendSevens(b, n)
	}
	return b, api.OK
}

// laidArcs tells the numbers that stand in bytes, the first two as one. Of one
// that is too great, as a first one too, it tells only that it is, lest it grow
// beyond what an integer has.
func laidArcs(data []byte) (l []uint64, ok bool) {
	const tooGreat = 40*2 + api.MaxArc + 1
	n, between := uint64(0), true
	for _, c := range data {
		if between && c == 0x80 {
			return nil, false
		}
		n = min(n<<7|uint64(c&0x7f), tooGreat)
		between = c < 0x80
		if between {
			l = append(l, n)
			n = 0
		}
	}
	return l, between && len(l) > 0
}

// writtenArcs cuts a text into the numbers between its dots; of one above
// MaxArc it tells only that it is.
func writtenArcs(s string) (l []uint64, ok bool) {
	n, digits := uint64(0), 0
	for _, c := range s {
		switch {
		case c == '.' && digits > 0:
			l = append(l, n)
			n, digits = 0, 0
		case c < '0', c > '9', n == 0 && digits > 0:
			return nil, false
		default:
			n = min(10*n+uint64(c-'0'), api.MaxArc+1)
			digits++
		}
	}
	return append(l, n), digits > 0
}
