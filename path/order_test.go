package path_test

import (
	"slices"
	"testing"

	"chirograph/api"
)

// fault is one thing that is wrong with a line of three, and what is said of it
// alone.
type fault struct {
	number int
	make   func(anchor *api.Cert, l []api.Cert, crls *[]api.Crl, ask *api.Ask)
}

// faults are one for each clause, in the order of the clauses. Each leaves the
// others as they are.
var faults = []fault{
	{api.PathSig, func(_ *api.Cert, l []api.Cert, _ *[]api.Crl, _ *api.Ask) { l[1].Sig = nil }},
	{api.PathTime, func(_ *api.Cert, l []api.Cert, _ *[]api.Crl, _ *api.Ask) { l[2].Until = now - 1 }},
	{api.PathExts, func(_ *api.Cert, l []api.Cert, _ *[]api.Crl, _ *api.Ask) { l[0].Unknown = true }},
	{api.PathCa, func(_ *api.Cert, l []api.Cert, _ *[]api.Crl, _ *api.Ask) { l[1].Ca = false }},
	{api.PathLong, func(_ *api.Cert, l []api.Cert, _ *[]api.Crl, _ *api.Ask) { l[0].Below = 0 }},
	{api.PathUsage, func(_ *api.Cert, l []api.Cert, _ *[]api.Crl, _ *api.Ask) { l[2].Usage = api.UseCertSign }},
	{api.PathNames, func(_ *api.Cert, l []api.Cert, _ *[]api.Crl, _ *api.Ask) { l[0].Permitted = gens(dir("no")) }},
	{api.PathPolicy, func(_ *api.Cert, _ []api.Cert, _ *[]api.Crl, ask *api.Ask) { ask.Explicit = true }},
	{api.PathUse, func(_ *api.Cert, l []api.Cert, _ *[]api.Crl, ask *api.Ask) {
		ask.Use, l[2].Eku = "1.2.3", oids("1.2.4")
	}},
	{api.PathRevoked, func(_ *api.Cert, l []api.Cert, crls *[]api.Crl, _ *api.Ask) {
		*crls = append(*crls, list(rank(2), 2, goneBy(l[2], now)))
	}},
	{api.PathStatus, func(_ *api.Cert, _ []api.Cert, _ *[]api.Crl, ask *api.Ask) { ask.Hard = true }},
}

// P16.3: of all that is wrong the first in the order of the clauses is told.
func TestFirstFault(t *testing.T) {
	for some := range 1 << len(faults) {
		anchor, l := line(3)
		l = slices.Clone(l)
		ask, want := asked(), api.Accept
		var lists []api.Crl
		for i, x := range faults {
			if some>>i&1 == 1 {
				x.make(&anchor, l, &lists, &ask)
				if want == api.Accept {
					want = x.number
				}
			}
		}
		wantCheck(t, "faults", anchor, l, lists, ask, want)
	}
}

// Of too many certificates a fault of any of them is told first, if its clause is
// an earlier one.
func TestFaultsOfLongLines(t *testing.T) {
	for _, x := range faults {
		anchor, l := line(10)
		ask := asked()
		var lists []api.Crl
		x.make(&anchor, l[7:], &lists, &ask)
		wantCheck(t, "a long line", anchor, l, lists, ask, min(x.number, api.PathLong))
	}
}
