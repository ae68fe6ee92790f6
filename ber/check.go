package ber

import "chirograph/api"

// seat is where an element stands, as far as strings go.
type seat struct {
	tag   int  // of the Cons string right about it; 0: it is no segment
	whole int  // of a segment: the number of the outermost string about it
	more  bool // of a segment that is not Cons: another such one stands behind it in that string
}

// seats has the seat of each element of a tree.
func seats(l []api.Elem) []seat {
	s := make([]seat, len(l))
	var latest [api.MaxDepth]int // at each depth, the number of the element gone by last
	for i, x := range l {
		latest[x.Depth] = i
		if x.Depth == 0 {
			continue
		}
		about := latest[x.Depth-1]
		if !isConsString(l[about]) {
			continue
		}
		s[i] = seat{tag: l[about].Tag, whole: about}
		if s[about].tag != 0 {
			s[i].whole = s[about].whole
		}
	}
	behind := make([]bool, len(l)) // of a string: whether one of its segments was met already
	for i := len(l) - 1; i >= 0; i-- {
		if s[i].tag != 0 && !l[i].Cons {
			s[i].more = behind[s[i].whole]
			behind[s[i].whole] = true
		}
	}
	return s
}

// check has the fault of the first element that is not as it must be.
func check(l []api.Elem) error {
	s := seats(l)
	for i, x := range l {
		if err := flawOf(x, s[i]); err != nil {
			return spot{i, err}
		}
	}
	return nil
}

func flawOf(x api.Elem, s seat) error {
	switch {
	case s.tag != 0 && !is(x, segmentTag(s.tag)):
		return flaw{api.ErrTag}
	case x.Class != api.Universal:
		return nil
	}
	switch k := kind(x.Tag); {
	case k == unknown:
		return flaw{api.ErrTag}
	case k == group && !x.Cons, k == plain && x.Cons:
		return flaw{api.ErrCons}
	case x.Cons:
		return nil
	case !isFormed(x.Tag, x.Data), s.more && hasSpare(x):
		return flaw{api.ErrForm}
	}
	return nil
}

// segmentTag is the tag that the segments of a string have.
func segmentTag(tag int) int {
	if tag == api.TagBits {
		return tag
	}
	return api.TagOctets
}

// hasSpare asks of Bits whose form is right whether bits of their last byte do
// not count.
func hasSpare(x api.Elem) bool {
	return x.Tag == api.TagBits && x.Data[0] != 0
}
