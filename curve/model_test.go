package curve_test

import (
	"math/big"
	"math/rand"
	"slices"

	"chirograph/api"
)

// model is a second writing of the chapter, by the library's numbers: sums are
// reckoned as P9.3 says them, with a division each.
type model struct {
	size            int
	p, n, b, gx, gy *big.Int
}

func modelOf(c int) model {
	if c == api.P256 {
		return model{
			size: 32,
			p:    hexed("ffffffff00000001000000000000000000000000ffffffffffffffffffffffff"),
			n:    hexed("ffffffff00000000ffffffffffffffffbce6faada7179e84f3b9cac2fc632551"),
			b:    hexed("5ac635d8aa3a93e7b3ebbd55769886bc651d06b0cc53b0f63bce3c3e27d2604b"),
			gx:   hexed("6b17d1f2e12c4247f8bce6e563a440f277037d812deb33a0f4a13945d898c296"),
			gy:   hexed("4fe342e2fe1a7f9b8ee7eb4a7c0f9e162bce33576b315ececbb6406837bf51f5"),
		}
	}
	return model{
		size: 48,
		p:    hexed("fffffffffffffffffffffffffffffffffffffffffffffffffffffffffffffffeffffffff0000000000000000ffffffff"),
		n:    hexed("ffffffffffffffffffffffffffffffffffffffffffffffffc7634d81f4372ddf581a0db248b0a77aecec196accc52973"),
		b:    hexed("b3312fa7e23ee7e4988e056be3f82d19181d9c6efe8141120314088f5013875ac656398d8a2ed19d2a85c8edd3ec2aef"),
		gx:   hexed("aa87ca22be8b05378eb1c71ef320ad746e1d3b628ba79b9859f741e082542a385502f25dbf55296c3a545e3872760ab7"),
		gy:   hexed("3617de4a96262c6f5d9e98bf9292dc29f8f41dbd289a147ce9da3113b5f0b8c00a60b1ce1d7e819d7a431d7c90ea0e5f"),
	}
}

func (m model) base() api.Point {
	return point(m.gx, m.gy)
}

func (m model) mod(v *big.Int) *big.Int {
	return v.Mod(v, m.p)
}

// cubic is X^3 - 3 X + b.
func (m model) cubic(x *big.Int) *big.Int {
	v := new(big.Int).Mul(x, x)
	v.Sub(v, big.NewInt(3)).Mul(v, x).Add(v, m.b)
	return m.mod(v)
}

func (m model) on(p api.Point) bool {
	x, y := value(p.X), value(p.Y)
	if x.Sign() == 0 && y.Sign() == 0 {
		return true
	}
	return x.Cmp(m.p) < 0 && y.Cmp(m.p) < 0 && m.mod(new(big.Int).Mul(y, y)).Cmp(m.cubic(x)) == 0
}

func (m model) neg(p api.Point) api.Point {
	if value(p.X).Sign() == 0 && value(p.Y).Sign() == 0 {
		return api.Point{}
	}
	return point(value(p.X), new(big.Int).Sub(m.p, value(p.Y)))
}

// slope is m of P9.3.
func (m model) slope(px, py, qx, qy *big.Int) *big.Int {
	up, down := new(big.Int).Sub(qy, py), new(big.Int).Sub(qx, px)
	if up.Sign() == 0 && down.Sign() == 0 {
		up.Mul(px, px).Sub(up, big.NewInt(1)).Mul(up, big.NewInt(3))
		down.Lsh(py, 1)
	}
	down.ModInverse(m.mod(down), m.p)
	return m.mod(up.Mul(up, down))
}

func (m model) add(p, q api.Point) api.Point {
	px, py, qx, qy := value(p.X), value(p.Y), value(q.X), value(q.Y)
	switch {
	case px.Sign() == 0 && py.Sign() == 0:
		return point(qx, qy)
	case qx.Sign() == 0 && qy.Sign() == 0:
		return point(px, py)
	case isPoint(point(qx, qy), m.neg(p)):
		return api.Point{}
	}
	s := m.slope(px, py, qx, qy)
	x := new(big.Int).Mul(s, s)
	m.mod(x.Sub(x, px).Sub(x, qx))
	y := new(big.Int).Sub(px, x)
	return point(x, m.mod(y.Mul(y, s).Sub(y, py)))
}

// mul doubles from the lowest digit up, and does not cut k.
func (m model) mul(k *big.Int, p api.Point) api.Point {
	var s api.Point
	for i := range k.BitLen() {
		if k.Bit(i) == 1 {
			s = m.add(s, p)
		}
		p = m.add(p, p)
	}
	return s
}

// times is a small number of times the base, below 0 too.
func (m model) times(k int) api.Point {
	if k < 0 {
		return m.neg(m.times(-k))
	}
	return m.mul(big.NewInt(int64(k)), m.base())
}

// at tells a point with this X, if there is one.
func (m model) at(x *big.Int) (p api.Point, ok bool) {
	y := new(big.Int).ModSqrt(m.cubic(x), m.p)
	if y == nil {
		return api.Point{}, false
	}
	return point(x, y), true
}

// some is a point by chance, not the far one.
func (m model) some(r *rand.Rand) api.Point {
	for {
		if p, ok := m.at(new(big.Int).Rand(r, m.p)); ok {
			if r.Intn(2) == 0 {
				return m.neg(p)
			}
			return p
		}
	}
}

// edges are points with coordinates at the prime's edges, and their Negs.
func (m model) edges() []api.Point {
	var l []api.Point
	for i := range 60 {
		x := big.NewInt(int64(i / 2))
		if i%2 == 1 {
			x.Sub(m.p, x.Add(x, big.NewInt(1)))
		}
		if p, ok := m.at(x); ok {
			l = append(l, p, m.neg(p))
		}
	}
	for _, p := range m.lowest() {
		l = append(l, p, m.neg(p))
	}
	return l
}

// lowest are points whose Y is small.
func (m model) lowest() []api.Point {
	if m.size == 32 {
		return []api.Point{
			point(hexed("d7325d7646cd60d80a92738ceb345f844cffaf35841022cab176f692de8de1d7"), big.NewInt(5)),
			point(hexed("9b21c2de1da31d68731dbdaf97d7ab3f979131e28e3dc5b2077d5a7187914a78"), big.NewInt(6)),
			point(hexed("b2ed6eacbc9f7da8564d94b7e4df51fccffa296dc6693e4fd7acceaed56ac453"), big.NewInt(7)),
		}
	}
	return []api.Point{
		point(hexed("2261b2bf605c22f2f3aef6338719b2c486388ad5240719a5257315969ef01ba27f0a104c89704773a81fdabee6ab5c78"), big.NewInt(1)),
		point(hexed("742b1363c46dbf7b0856f75f64c464dcbe246ff7966c1498faa711c4cf9c00f1e800d93cc04a3455923800cf11c812f4"), big.NewInt(2)),
		point(hexed("05c72f3f4e3a89d0022820e5b5f6e798b73805fb7c97376af45cffac060745189cf07144ffc41a26795b331199159f9c"), big.NewInt(4)),
	}
}

// level tells the other points that have p's Y: their Xs are the roots of
// Z^2 + X Z + X^2 - 3.
func (m model) level(p api.Point) []api.Point {
	x := value(p.X)
	root := new(big.Int).Mul(x, x)
	root.Mul(root, big.NewInt(-3)).Add(root, big.NewInt(12))
	if root = root.ModSqrt(m.mod(root), m.p); root == nil {
		return nil
	}
	half := new(big.Int).ModInverse(big.NewInt(2), m.p)
	one, two := new(big.Int).Sub(root, x), new(big.Int).Add(root, x)
	m.mod(one.Mul(one, half))
	m.mod(two.Neg(two).Mul(two, half))
	return []api.Point{point(one, value(p.Y)), point(two, value(p.Y))}
}

// bytes are those of P9.4.
func (m model) bytes(p api.Point) []byte {
	return m.laid(4, value(p.X), value(p.Y))
}

func (m model) laid(first byte, x, y *big.Int) []byte {
	return slices.Concat([]byte{first}, x.FillBytes(make([]byte, m.size)), y.FillBytes(make([]byte, m.size)))
}
