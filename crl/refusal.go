package crl

import "chirograph/api"

// refusal is the value by which the inner functions give up.
type refusal struct {
	errno api.Errno
}

// demand gives up, unless what is demanded holds.
func demand(holds bool, e api.Errno) {
	if !holds {
		panic(refusal{e})
	}
}

// demandForm gives up at once, wherever it is asked: no other error is told
// ahead of that of the form.
func demandForm(holds bool) {
	demand(holds, api.ErrForm)
}

// attempt works, and tells the error with which that gave up, or OK.
func attempt(work func()) (e api.Errno) {
	defer func() { e = told(recover()) }()
	work()
	return api.OK
}

// told is the error of what was caught. What is no refusal goes on: taken for
// an answer, it would hide a fault of the program itself.
func told(caught any) api.Errno {
	switch x := caught.(type) {
	case nil:
		return api.OK
	case refusal:
		return x.errno
	}
	panic(caught)
}
