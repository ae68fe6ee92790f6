package curve

import (
	"chirograph/api"
	"chirograph/nat"
)

// triple is a point by three coordinates X, Y, Z: the point of X / Z^2 and
// Y / Z^3, or the far one, if Z is 0. Sums of such ones need no division, which
// takes far longer than a product.
type triple [3][]uint32

func tripleOf(p api.Point) triple {
	if isFar(p) {
		return triple{}
	}
	return triple{nat.Trim(p.X), nat.Trim(p.Y), nat.Small(1)}
}

// point is new memory, whatever t shares.
func (f field) point(t triple) api.Point {
	if t.isFar() {
		return api.Point{}
	}
	w, _ := nat.Inverse(t[2], f)
	square := f.square(w)
	return api.Point{X: f.times(t[0], square), Y: f.times(t[1], f.times(square, w))}
}

func (t triple) isFar() bool {
	return len(t[2]) == 0
}

// sum tells apart what one quotient of differences does not serve for: the far
// point, a point with itself, and with its Neg.
func (f field) sum(s, t triple) triple {
	switch {
	case s.isFar():
		return t
	case t.isFar():
		return s
	}
	sz, tz := f.square(s[2]), f.square(t[2])
	sx, tx := f.times(s[0], tz), f.times(t[0], sz)
	sy, ty := f.times(s[1], f.times(t[2], tz)), f.times(t[1], f.times(s[2], sz))
	dx, dy := f.minus(tx, sx), f.minus(ty, sy)
	switch {
	case len(dx) > 0:
		return f.chord(sx, sy, dx, dy, f.times(s[2], t[2]))
	case len(dy) > 0:
		return triple{}
	}
	return f.double(s)
}

// chord tells the sum of two points whose Z is z both, and whose Xs differ: of
// x and y, and of x + dx and y + dy.
func (f field) chord(x, y, dx, dy, z []uint32) triple {
	square := f.square(dx)
	cube, wide := f.times(square, dx), f.times(square, x)
	sum := f.minus(f.minus(f.square(dy), cube), f.twice(wide))
	return triple{sum, f.minus(f.times(dy, f.minus(wide, sum)), f.times(y, cube)), f.times(z, dx)}
}

// double tells the sum of a point and itself; 3 X^2 - 3 Z^4, the slope's upper
// part, is thrice a product of two.
func (f field) double(t triple) triple {
	x, y, z := t[0], t[1], t[2]
	zz, yy := f.square(z), f.square(y)
	slope := f.thrice(f.times(f.minus(x, zz), f.plus(x, zz)))
	x4 := f.twice(f.twice(f.times(x, yy)))
	y8 := f.twice(f.square(f.twice(yy)))
	sum := f.minus(f.square(slope), f.twice(x4))
	return triple{sum, f.minus(f.times(slope, f.minus(x4, sum)), y8), f.twice(f.times(y, z))}
}
