package realm

import "strings"

// small has a letter A to Z as the small one. It is asked byte by byte: none of
// the bytes of a longer character is such a letter, and what is no UTF-8 stays.
func small(c byte) byte {
	if 'A' <= c && c <= 'Z' {
		return c - 'A' + 'a'
	}
	return c
}

// sameHost: are both the same as hosts?
func sameHost(a, b string) bool {
	if len(a) != len(b) {
		return false
	}
	for i := range len(a) {
		if small(a[i]) != small(b[i]) {
			return false
		}
	}
	return true
}

// endsBehind: does a host end in another one, with something ahead of it?
func endsBehind(host, end string) bool {
	return len(host) > len(end) && sameHost(host[len(host)-len(end):], end)
}

// cutMail has what stands ahead of the last @, and behind it; ok: is there one?
func cutMail(s string) (box, house string, ok bool) {
	at := strings.LastIndexByte(s, '@')
	if at < 0 {
		return "", "", false
	}
	return s[:at], s[at+1:], true
}
