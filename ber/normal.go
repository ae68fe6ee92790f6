package ber

import (
	"bytes"
	"slices"

	"chirograph/api"
)

func normal(l []api.Elem) ([]api.Elem, error) {
	if !isTree(l) {
		return nil, flaw{api.ErrTree}
	}
	if err := check(l); err != nil {
		return nil, err
	}
	nodes := measured(settled(l))
	sortSets(nodes)
	m := make([]api.Elem, len(nodes))
	for i, x := range nodes {
		m[i] = x.elem
	}
	return m, nil
}

// settled is the tree with whole strings, and with Data, new ones, as they must
// be: only the order within Sets is left.
func settled(l []api.Elem) []api.Elem {
	m := make([]api.Elem, 0, len(l))
	for i := 0; i < len(l); {
		x, next := l[i], i+1
		if isConsString(x) {
			for next < len(l) && l[next].Depth > x.Depth {
				next++
			}
			x.Cons, x.Data = false, joined(x.Tag, l[i+1:next])
		} else {
			x.Data = append([]byte(nil), x.Data...)
		}
		settle(x)
		m = append(m, x)
		i = next
	}
	return m
}

// joined has the Data of a string of segments, at whatever depth these stand.
func joined(tag int, segments []api.Elem) []byte {
	if tag != api.TagBits {
		var data []byte
		for _, x := range segments {
			data = append(data, x.Data...)
		}
		return data
	}
	data := []byte{0}
	for _, x := range segments {
		if !x.Cons {
			data[0] = x.Data[0]
			data = append(data, x.Data[1:]...)
		}
	}
	return data
}

// settle writes into the element's Data.
func settle(x api.Elem) {
	switch {
	case is(x, api.TagBool):
		if x.Data[0] != 0 {
			x.Data[0] = 0xff
		}
	case is(x, api.TagBits):
		if spare := x.Data[0]; spare != 0 {
			x.Data[len(x.Data)-1] &= 0xff << spare
		}
	}
}

// sortSets goes from the last Set to the first one, so that those within one
// are in order ahead of it.
func sortSets(nodes []node) {
	for i := len(nodes) - 1; i >= 0; i-- {
		if is(nodes[i].elem, api.TagSet) {
			sortSet(nodes[i+1 : i+nodes[i].count])
		}
	}
}

func sortSet(inner []node) {
	var rows [][]node // of each element right within: itself and what it is made of
	for rest := inner; len(rest) > 0; rest = rest[rest[0].count:] {
		rows = append(rows, rest[:rest[0].count])
	}
	if !slices.IsSortedFunc(rows, compare) {
		slices.SortFunc(rows, compare)
		copy(inner, slices.Concat(rows...))
	}
}

// compare holds two elements against each other by their bytes without laying
// them. As long as heads and lengths are alike, the bytes of both run side by
// side; so no element's bytes are a beginning of another one's, and two rows of
// which one is at its end are alike.
func compare(x, y []node) int {
	for i := range min(len(x), len(y)) {
		if c := bytes.Compare(x[i].front, y[i].front); c != 0 {
			return c
		}
		if c := bytes.Compare(x[i].elem.Data, y[i].elem.Data); c != 0 {
			return c
		}
	}
	return 0
}
