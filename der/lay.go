package der

import "chirograph/api"

// isHead asks for a class and a tag that an element may have.
func isHead(class, tag int) bool {
	switch {
	case class < api.Universal, class > api.Private, tag < 0, tag > api.MaxTag:
		return false
	}
	return class != api.Universal || tag != 0
}

func head(class, tag int, cons bool) []byte {
	first := byte(class << 6)
	if cons {
		first |= 0x20
	}
	if tag < 31 {
		return []byte{first | byte(tag)}
	}
	return appendSevens([]byte{first | 31}, uint64(tag))
}

// appendSevens lays a number in bytes of seven bits each, as long tags and
// object identifiers have it.
func appendSevens(b []byte, n uint64) []byte {
	shift := 0
	for n>>shift >= 0x80 {
		shift += 7
	}
	for ; shift > 0; shift -= 7 {
		b = append(b, byte(n>>shift)|0x80)
	}
	return append(b, byte(n&0x7f))
}

func length(n int) []byte {
	if n < 0x80 {
		return []byte{byte(n)}
	}
	count := 0
	for rest := n; rest > 0; rest >>= 8 {
		count++
	}
	b := []byte{0x80 + byte(count)}
	for i := range count {
		b = append(b, byte(n>>(8*(count-1-i))))
	}
	return b
}
