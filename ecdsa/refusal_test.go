package ecdsa

import (
	"errors"
	"testing"

	"chirograph/api"
)

func TestAttempt(t *testing.T) {
	for _, e := range []api.Errno{api.OK, api.ErrArg, api.ErrSig} {
		if got := attempt(func() { demand(e == api.OK, e) }); got != e {
			t.Errorf("error %d; wanted %d", got, e)
		}
	}
	inner := attempt(func() {
		if attempt(func() { demand(false, api.ErrTag) }) == api.ErrTag {
			demand(false, api.ErrSig)
		}
	})
	if inner != api.ErrSig {
		t.Errorf("one within another: error %d", inner)
	}
}

// A fault of the program itself must not pass for a signature that is right.
func TestAttemptHidesNoFault(t *testing.T) {
	fault := errors.New("a fault")
	defer func() {
		if caught := recover(); caught != fault {
			t.Errorf("caught: %v", caught)
		}
	}()
	e := attempt(func() { panic(fault) })
	t.Errorf("answered: error %d", e)
}
