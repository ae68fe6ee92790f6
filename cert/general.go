package cert

import (
	"slices"

	"chirograph/api"
)

// isGeneral asks for a head that a name of some kind has. Those without a
// constant of api are known by their form alone.
func isGeneral(x api.Tlv) bool {
	if x.Class != api.Context {
		return false
	}
	switch x.Tag {
	case 0, 3, api.GenDir, 5:
		return x.Cons
	case api.GenMail, api.GenDns, 6, api.GenIp, 8:
		return !x.Cons
	}
	return false
}

// isJudged asks for a kind of which a base says what may stand below it.
func isJudged(kind int) bool {
	switch kind {
	case api.GenMail, api.GenDns, api.GenDir, api.GenIp:
		return true
	}
	return false
}

// address is one of either length; that of a base has a mask behind it.
func address(data []byte, base bool) ([]byte, api.Errno) {
	short, long := 4, 16
	if base {
		short, long = 2*short, 2*long
	}
	if len(data) != short && len(data) != long {
		return nil, api.ErrForm
	}
	return slices.Clone(data), api.OK
}
