// Package nat is layer 1: see shared/doc/01-nat.md.
//
// A number is a list of limbs of 32 bits, the lowest first. The exported
// functions ask for faults; the inner ones reckon with lists that have no
// limb 0 at their end, and know no limit.
package nat

import (
	"math/bits"

	"chirograph/api"
)

// Trim: without limbs 0 at the end.
func Trim(a []uint32) []uint32 {
	t := make([]uint32, length(a))
	copy(t, a)
	return t
}

// Bits: how many binary digits.
func Bits(a []uint32) int {
	n := length(a)
	if n == 0 {
		return 0
	}
	return 32*(n-1) + bits.Len32(a[n-1])
}

// Cmp: which is greater.
func Cmp(a, b []uint32) int {
	n, m := length(a), length(b)
	switch {
	case n < m:
		return -1
	case n > m:
		return 1
	}
	for k := range n {
		i := n - 1 - k
		switch {
		case a[i] < b[i]:
			return -1
		case a[i] > b[i]:
			return 1
		}
	}
	return 0
}

// Small: the number.
func Small(n uint64) []uint32 {
	return cut([]uint32{uint32(n), uint32(n >> 32)})
}

// length tells how many limbs count.
func length(a []uint32) int {
	n := len(a)
	for n > 0 && a[n-1] == 0 {
		n--
	}
	return n
}

// cut tells the same memory without the limbs 0 at its end: of an argument it
// is only to be read.
func cut(a []uint32) []uint32 {
	return a[:length(a)]
}

// tooLong asks for lists as they are handed in: limbs 0 at the end count here.
func tooLong(a, b []uint32) bool {
	switch {
	case len(a) > api.MaxLimbs:
		fallthrough
	case len(b) > api.MaxLimbs:
		return true
	}
	return false
}
