package ber

import "chirograph/api"

func isTree(l []api.Elem) bool {
	if len(l) == 0 || len(l) > api.MaxElems || l[0].Depth != 0 {
		return false
	}
	for i, x := range l {
		if !mayStand(x) || i > 0 && !mayFollow(l[i-1], x) {
			return false
		}
	}
	return true
}

// mayStand asks what is asked of an element alone.
func mayStand(x api.Elem) bool {
	switch {
	case x.Class < api.Universal || x.Class > api.Private:
		return false
	case x.Tag < 0 || x.Tag > api.MaxTag:
		return false
	case x.Class == api.Universal && x.Tag == 0:
		return false
	}
	return !x.Cons || len(x.Data) == 0
}

func mayFollow(ahead, x api.Elem) bool {
	if x.Depth < 1 || x.Depth >= api.MaxDepth {
		return false
	}
	return x.Depth <= ahead.Depth || ahead.Cons && x.Depth == ahead.Depth+1
}
