package crl

import (
	"errors"
	"testing"

	"chirograph/api"
)

func TestAttempt(t *testing.T) {
	for _, e := range []api.Errno{api.OK, api.ErrForm, api.ErrTwice} {
		if got := attempt(func() { demand(e == api.OK, e) }); got != e {
			t.Errorf("error %d; wanted %d", got, e)
		}
	}
	if got := attempt(func() { demandForm(false) }); got != api.ErrForm {
		t.Errorf("the form: error %d", got)
	}
	if got := attempt(func() { demandForm(true) }); got != api.OK {
		t.Errorf("the form, as it must be: error %d", got)
	}
}

// A fault of the program itself must not pass for a list that is read.
func TestAttemptHidesNoFault(t *testing.T) {
	fault := errors.New("a fault")
	defer func() {
		if caught := recover(); caught != fault {
			t.Errorf("caught: %v", caught)
		}
	}()
	e := attempt(func() { panic(fault) })
	t.Errorf("answered: error %d", e)
}
