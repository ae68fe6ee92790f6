package name

import (
	"errors"
	"strconv"

	"chirograph/api"
)

// What a name is not built for.
var (
	errMany = errors.New("more than may be")
	errNone = errors.New("a set without parts")
	errForm = errors.New("no object identifier")
	errArg  = errors.New("no tag of a value")
	errLong = errors.New("too long")
)

// place is a fault, made of another one that lacks where it is.
type place struct {
	what string
	at   int
	err  error
}

func (p place) Error() string {
	return p.what + " " + strconv.Itoa(p.at) + ": " + p.err.Error()
}

func (p place) Unwrap() error {
	return p.err
}

// told has the number of a fault, wherever it is.
func told(err error) api.Errno {
	switch {
	case errors.Is(err, errMany):
		return api.ErrMany
	case errors.Is(err, errNone):
		return api.ErrNone
	case errors.Is(err, errForm):
		return api.ErrForm
	case errors.Is(err, errArg):
		return api.ErrArg
	}
	return api.ErrLong
}
