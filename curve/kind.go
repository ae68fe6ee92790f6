package curve

import (
	"chirograph/api"
	"chirograph/nat"
)

// kind is what makes a curve: its points have Y^2 = X^3 - 3 X + b.
type kind struct {
	size  int
	prime field
	order []uint32
	b     []uint32
	base  api.Point
}

// pick makes a curve's numbers anew each time, since answers hand them out.
func pick(c int) (k kind, known bool) {
	switch {
	case c < api.P256:
		fallthrough
	case c > api.P384:
		return kind{}, false
	case c == api.P256:
		return p256(), true
	}
	return p384(), true
}

func p256() kind {
	return kind{
		size:  32,
		prime: field{0xffffffff, 0xffffffff, 0xffffffff, 0, 0, 0, 1, 0xffffffff},
		order: []uint32{0xfc632551, 0xf3b9cac2, 0xa7179e84, 0xbce6faad, 0xffffffff, 0xffffffff, 0, 0xffffffff},
		b:     []uint32{0x27d2604b, 0x3bce3c3e, 0xcc53b0f6, 0x651d06b0, 0x769886bc, 0xb3ebbd55, 0xaa3a93e7, 0x5ac635d8},
		base: api.Point{
			X: []uint32{0xd898c296, 0xf4a13945, 0x2deb33a0, 0x77037d81, 0x63a440f2, 0xf8bce6e5, 0xe12c4247, 0x6b17d1f2},
			Y: []uint32{0x37bf51f5, 0xcbb64068, 0x6b315ece, 0x2bce3357, 0x7c0f9e16, 0x8ee7eb4a, 0xfe1a7f9b, 0x4fe342e2},
		},
	}
}

func p384() kind {
	return kind{
		size: 48,
		prime: field{0xffffffff, 0, 0, 0xffffffff, 0xfffffffe, 0xffffffff,
			0xffffffff, 0xffffffff, 0xffffffff, 0xffffffff, 0xffffffff, 0xffffffff},
		order: []uint32{0xccc52973, 0xecec196a, 0x48b0a77a, 0x581a0db2, 0xf4372ddf, 0xc7634d81,
			0xffffffff, 0xffffffff, 0xffffffff, 0xffffffff, 0xffffffff, 0xffffffff},
		b: []uint32{0xd3ec2aef, 0x2a85c8ed, 0x8a2ed19d, 0xc656398d, 0x5013875a, 0x0314088f,
			0xfe814112, 0x181d9c6e, 0xe3f82d19, 0x988e056b, 0xe23ee7e4, 0xb3312fa7},
		base: api.Point{
			X: []uint32{0x72760ab7, 0x3a545e38, 0xbf55296c, 0x5502f25d, 0x82542a38, 0x59f741e0,
				0x8ba79b98, 0x6e1d3b62, 0xf320ad74, 0x8eb1c71e, 0xbe8b0537, 0xaa87ca22},
			Y: []uint32{0x90ea0e5f, 0x7a431d7c, 0x1d7e819d, 0x0a60b1ce, 0xb5f0b8c0, 0xe9da3113,
				0x289a147c, 0xf8f41dbd, 0x9292dc29, 0x5d9e98bf, 0x96262c6f, 0x3617de4a},
		},
	}
}

// on takes lists of any length: what is below the prime is short.
func (k kind) on(p api.Point) bool {
	switch {
	case isFar(p):
		return true
	case nat.Cmp(p.X, k.prime) >= 0 || nat.Cmp(p.Y, k.prime) >= 0:
		return false
	}
	f, x, y := k.prime, nat.Trim(p.X), nat.Trim(p.Y)
	right := f.plus(f.minus(f.times(f.square(x), x), f.thrice(x)), k.b)
	return nat.Cmp(f.square(y), right) == 0
}

// mix goes down the binary digits of both factors at once, so that one doubling
// serves both. Since the order times any point is the far one, only the factors'
// rests modulo the order count, and these have fewer digits.
func (k kind) mix(a, b []uint32, q api.Point) api.Point {
	f := k.prime
	_, a, _ = nat.DivMod(a, k.order)
	_, b, _ = nat.DivMod(b, k.order)
	first, second := tripleOf(k.base), tripleOf(q)
	steps := [4]triple{{}, first, second, f.sum(first, second)}
	var s triple
	n := max(nat.Bits(a), nat.Bits(b))
	for i := range n {
		at := n - 1 - i
		s = f.sum(f.double(s), steps[digit(a, at)+2*digit(b, at)])
	}
	return f.point(s)
}

// digit tells a binary digit; beyond the highest one they are 0.
func digit(a []uint32, i int) uint32 {
	if i/32 >= len(a) {
		return 0
	}
	return a[i/32] >> (i % 32) & 1
}
