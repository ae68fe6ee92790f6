package der

import "chirograph/api"

// reader reads b byte by byte. It stands at the next byte; once a fault is
// told, at the place of the fault.
type reader struct {
	b  []byte
	at int
}

func (r *reader) fault(e api.Errno, at int) api.Errno {
	r.at = at
	return e
}

func (r *reader) next() (byte, api.Errno) {
	if r.at == len(r.b) {
		return 0, api.ErrShort
	}
	c := r.b[r.at]
	r.at++
	return c, api.OK
}

func (r *reader) element() (x api.Tlv, e api.Errno) {
	from := r.at
	x, e = r.head()
	if e != api.OK {
		return api.Tlv{}, e
	}
	n, e := r.length()
	if e != api.OK {
		return api.Tlv{}, e
	}
	data := r.at
	r.at += n
	x.Data = copied(r.b[data:r.at])
	x.Raw = copied(r.b[from:r.at])
	return x, api.OK
}

func (r *reader) head() (x api.Tlv, e api.Errno) {
	c, e := r.next()
	if e != api.OK {
		return x, e
	}
	x.Class, x.Cons, x.Tag = int(c>>6), c&0x20 != 0, int(c&0x1f)
	switch {
	case x.Tag == 31:
		x.Tag, e = r.longTag()
	case !isHead(x.Class, x.Tag):
		e = r.fault(api.ErrTag, r.at-1)
	}
	return x, e
}

func (r *reader) longTag() (int, api.Errno) {
	tag := 0
	for {
		c, e := r.next()
		if e != api.OK {
			return 0, e
		}
		tag = tag<<7 | int(c&0x7f)
		last := c < 0x80
		// It is still 0 only behind a first byte 80, or 00, which is wrong too.
		if tag == 0 || tag > api.MaxTag || last && tag < 31 {
			return 0, r.fault(api.ErrTag, r.at-1)
		}
		if last {
			return tag, api.OK
		}
	}
}

func (r *reader) length() (n int, e api.Errno) {
	from := r.at
	c, e := r.next()
	if e != api.OK {
		return 0, e
	}
	n, shortest := int(c), c != 0x80 && c != 0xff
	if c > 0x80 && c < 0xff {
		n, shortest, e = r.longLength(int(c - 0x80))
	}
	switch {
	case e != api.OK:
		return 0, e
	case !shortest, n > len(r.b)-r.at:
		return 0, r.fault(api.ErrSize, from)
	}
	return n, api.OK
}

// longLength reads a number of so many bytes, and tells whether it needs them
// all; of one above MaxTotal it tells only that it is, lest it grow beyond an
// int.
func (r *reader) longLength(count int) (n int, shortest bool, e api.Errno) {
	for i := range count {
		c, e := r.next()
		if e != api.OK {
			return 0, false, e
		}
		if i == 0 {
			shortest = c != 0
		}
		n = min(n<<8|int(c), api.MaxTotal+1)
	}
	return n, shortest && n >= 0x80, api.OK
}

// copied is new memory, lest an answer be shared.
func copied(b []byte) []byte {
	return append([]byte(nil), b...)
}
