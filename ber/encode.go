package ber

import "chirograph/api"

// node is an element of a tree with what is told of it by those that it is
// made of. Nothing in it hangs on where it stands, so that nodes can be moved.
type node struct {
	elem  api.Elem
	front []byte // its head and its length
	size  int    // of bytes, when it is laid
	count int    // of elements: itself and those within
}

func encode(l []api.Elem) ([]byte, error) {
	if !isTree(l) {
		return nil, flaw{api.ErrTree}
	}
	nodes := measured(l)
	if nodes[0].size > api.MaxTotal {
		return nil, flaw{api.ErrLong}
	}
	b := make([]byte, 0, nodes[0].size)
	for _, x := range nodes {
		b = append(b, x.front...)
		b = append(b, x.elem.Data...)
	}
	return b, nil
}

// measured goes from the last element of a tree to the first one: what stands
// one deeper behind an element, and nobody has taken yet, is what it is made of.
func measured(l []api.Elem) []node {
	nodes := make([]node, len(l))
	var size, count [api.MaxDepth + 1]int
	for i := len(l) - 1; i >= 0; i-- {
		x := l[i]
		inner := x.Depth + 1
		n := len(x.Data) + size[inner]
		front := append(head(x), length(n)...)
		nodes[i] = node{x, front, len(front) + n, 1 + count[inner]}
		size[inner], count[inner] = 0, 0
		size[x.Depth] += nodes[i].size
		count[x.Depth] += nodes[i].count
	}
	return nodes
}

func head(x api.Elem) []byte {
	first := byte(x.Class << 6)
	if x.Cons {
		first |= 0x20
	}
	if x.Tag < 31 {
		return []byte{first | byte(x.Tag)}
	}
	h := []byte{first | 31}
	for shift := 21; shift > 0; shift -= 7 {
		if x.Tag>>shift > 0 {
			h = append(h, byte(x.Tag>>shift)|0x80)
		}
	}
	return append(h, byte(x.Tag&0x7f))
}

func length(n int) []byte {
	if n < 0x80 {
		return []byte{byte(n)}
	}
	count := 0
	for rest := n; rest > 0; rest >>= 8 {
		count++
	}
	b := []byte{0x80 + byte(count)}
	for i := range count {
		b = append(b, byte(n>>(8*(count-1-i))))
	}
	return b
}
