package ber

import "chirograph/api"

// part is a Cons element that has not come to its end yet.
type part struct {
	open  bool
	until int // its own end, or, if it is open, that of the innermost length about it
}

// end tells whether the part ends at p, and how many bytes say so.
func (x part) end(b []byte, p int) (n int, ends bool) {
	if !x.open {
		return 0, p == x.until
	}
	return 2, p+1 < x.until && b[p] == 0 && b[p+1] == 0
}

func parse(b []byte) ([]api.Elem, error) {
	if len(b) > api.MaxTotal {
		return nil, fault(api.ErrLong, 0)
	}
	var l []api.Elem
	var parts []part // the innermost one last
	r := reader{b: b, until: len(b)}
reading:
	for {
		x, inner, err := r.element(len(l), len(parts))
		if err != nil {
			return nil, err
		}
		l = append(l, x)
		if x.Cons {
			parts = append(parts, inner)
		}
		for len(parts) > 0 {
			last := parts[len(parts)-1]
			r.until = last.until
			n, ends := last.end(b, r.at)
			if !ends {
				continue reading
			}
			r.at += n
			parts = parts[:len(parts)-1]
		}
		break reading
	}
	if r.at < len(b) {
		return nil, fault(api.ErrTail, r.at)
	}
	return l, nil
}

// reader reads b byte by byte, and none that does not stand ahead of until.
type reader struct {
	b         []byte
	at, until int
}

// element reads the next element up to its first inner one; inner counts if it
// is Cons.
func (r *reader) element(ahead, depth int) (x api.Elem, inner part, err error) {
	if ahead == api.MaxElems {
		return x, inner, fault(api.ErrMany, r.at)
	}
	if depth == api.MaxDepth {
		return x, inner, fault(api.ErrDeep, r.at)
	}
	x, err = r.head()
	if err != nil {
		return x, inner, err
	}
	n, open, err := r.length(x.Cons)
	if err != nil {
		return x, inner, err
	}
	x.Depth = depth
	switch {
	case open:
		inner = part{open: true, until: r.until}
	case x.Cons:
		inner = part{until: r.at + n}
	default:
		x.Data = append(x.Data, r.b[r.at:r.at+n]...)
		r.at += n
	}
	return x, inner, nil
}

func (r *reader) next() (byte, error) {
	if r.at >= r.until {
		return 0, fault(api.ErrShort, r.until)
	}
	c := r.b[r.at]
	r.at++
	return c, nil
}

func (r *reader) head() (x api.Elem, err error) {
	c, err := r.next()
	if err != nil {
		return x, err
	}
	x.Class, x.Cons, x.Tag = int(c>>6), c&0x20 != 0, int(c&0x1f)
	switch {
	case x.Tag == 31:
		x.Tag, err = r.longTag()
	case x.Class == api.Universal && x.Tag == 0:
		err = fault(api.ErrTag, r.at-1)
	}
	return x, err
}

func (r *reader) longTag() (int, error) {
	tag := 0
	for {
		c, err := r.next()
		if err != nil {
			return 0, err
		}
		tag = tag<<7 | int(c&0x7f)
		last := c < 0x80
		// It is still 0 only behind a first byte 80, or 00, which is wrong too.
		if tag == 0 || tag > api.MaxTag || last && tag < 31 {
			return 0, fault(api.ErrTag, r.at-1)
		}
		if last {
			return tag, nil
		}
	}
}

func (r *reader) length(cons bool) (n int, open bool, err error) {
	from := r.at
	c, err := r.next()
	switch {
	case err != nil:
		return 0, false, err
	case c == 0xff, c == 0x80 && !cons:
		return 0, false, fault(api.ErrSize, from)
	case c == 0x80:
		return 0, true, nil
	case c < 0x80:
		n = int(c)
	default:
		n, err = r.number(int(c - 0x80))
	}
	if err == nil && n > r.until-r.at {
		n, err = 0, fault(api.ErrSize, from)
	}
	return n, false, err
}

// number reads one of so many bytes; of one above MaxTotal it tells only that
// it is, lest it grow beyond an int.
func (r *reader) number(count int) (n int, err error) {
	for range count {
		c, err := r.next()
		if err != nil {
			return 0, err
		}
		n = min(n<<8|int(c), api.MaxTotal+1)
	}
	return n, nil
}
