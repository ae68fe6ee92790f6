package alg

import (
	"errors"

	"chirograph/api"
)

// The two kinds of faults. One that is about what names an algorithm is told
// apart from one that is about a key whose algorithm is known.
var (
	errNone = errors.New("no algorithm that is known")
	errKey  = errors.New("no key")
)

// fault is one of either kind, with what shows it.
type fault struct {
	what string
	kind error
}

func (f fault) Error() string {
	return f.what + ": " + f.kind.Error()
}

func (f fault) Unwrap() error {
	return f.kind
}

func none(what string) error {
	return fault{what, errNone}
}

func noKey(what string) error {
	return fault{what, errKey}
}

// told has the number of a fault, whatever shows it.
func told(err error) api.Errno {
	switch {
	case err == nil:
		return api.OK
	case errors.Is(err, errNone):
		return api.ErrAlg
	}
	return api.ErrKey
}
