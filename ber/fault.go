package ber

import (
	"errors"
	"strconv"

	"chirograph/api"
)

// flaw is what is wrong, wherever that is.
type flaw struct {
	errno api.Errno
}

func (f flaw) Error() string {
	return "error " + strconv.Itoa(int(f.errno))
}

// spot is a fault, made of another one that lacks the place.
type spot struct {
	at  int
	err error
}

func (s spot) Error() string {
	return s.err.Error() + " at " + strconv.Itoa(s.at)
}

func (s spot) Unwrap() error {
	return s.err
}

func fault(e api.Errno, at int) error {
	return spot{at, flaw{e}}
}

// told has an error's number and its place: 0, if nobody named one.
func told(err error) (api.Errno, int) {
	var f flaw
	if !errors.As(err, &f) {
		return api.OK, 0
	}
	var s spot
	if !errors.As(err, &s) {
		return f.errno, 0
	}
	return f.errno, s.at
}
