package ber

import "chirograph/api"

// Kinds of tags of the class Universal.
const (
	unknown = iota
	plain   // never Cons
	group   // always Cons
	text    // a string: Cons if it is laid in segments
)

func kind(tag int) int {
	switch tag {
	case api.TagBool, api.TagInt, api.TagNull, api.TagOid, api.TagEnum:
		return plain
	case api.TagSeq, api.TagSet:
		return group
	case api.TagBits, api.TagOctets, api.TagUtf8, api.TagNumeric, api.TagPrintable,
		api.TagIa5, api.TagUtc, api.TagGeneral, api.TagVisible, api.TagBmp:
		return text
	}
	return unknown
}

// is asks for an element of the class Universal with that tag.
func is(x api.Elem, tag int) bool {
	return x.Class == api.Universal && x.Tag == tag
}

func isConsString(x api.Elem) bool {
	return x.Class == api.Universal && kind(x.Tag) == text && x.Cons
}

// isFormed asks for the form of an element that is not Cons.
func isFormed(tag int, data []byte) bool {
	switch tag {
	case api.TagBool:
		return len(data) == 1
	case api.TagInt, api.TagEnum:
		return isInt(data)
	case api.TagNull:
		return len(data) == 0
	case api.TagOid:
		return isOid(data)
	case api.TagBits:
		return isBits(data)
	}
	return true
}

func isInt(data []byte) bool {
	if len(data) < 2 {
		return len(data) == 1
	}
	negative := data[1] >= 0x80
	return !(data[0] == 0 && !negative || data[0] == 0xff && negative)
}

func isOid(data []byte) bool {
	between := true // a number ended, or none has begun
	for _, c := range data {
		if between && c == 0x80 {
			return false
		}
		between = c < 0x80
	}
	return len(data) > 0 && between
}

func isBits(data []byte) bool {
	if len(data) < 2 {
		return len(data) == 1 && data[0] == 0
	}
	return data[0] <= 7
}
