package curve

import "tryst/field"

// d is -121665 by 121666.
var d = [32]byte{
	0xa3, 0x78, 0x59, 0x13, 0xca, 0x4d, 0xeb, 0x75, 0xab, 0xd8, 0x41, 0x41, 0x4d, 0x0a, 0x70, 0x00,
	0x98, 0xe8, 0x79, 0x77, 0x79, 0x40, 0xc7, 0x8c, 0x73, 0xfe, 0x6f, 0x2b, 0xee, 0x6c, 0x03, 0x52,
}

// twiceD is d and d.
var twiceD = [32]byte{
	0x59, 0xf1, 0xb2, 0x26, 0x94, 0x9b, 0xd6, 0xeb, 0x56, 0xb1, 0x83, 0x82, 0x9a, 0x14, 0xe0, 0x00,
	0x30, 0xd1, 0xf3, 0xee, 0xf2, 0x80, 0x8e, 0x19, 0xe7, 0xfc, 0xdf, 0x56, 0xdc, 0xd9, 0x06, 0x24,
}

// baseX and baseY are where B is.
var baseX = [32]byte{
	0x1a, 0xd5, 0x25, 0x8f, 0x60, 0x2d, 0x56, 0xc9, 0xb2, 0xa7, 0x25, 0x95, 0x60, 0xc7, 0x2c, 0x69,
	0x5c, 0xdc, 0xd6, 0xfd, 0x31, 0xe2, 0xa4, 0xc0, 0xfe, 0x53, 0x6e, 0xcd, 0xd3, 0x36, 0x69, 0x21,
}

var baseY = [32]byte{
	0x58, 0x66, 0x66, 0x66, 0x66, 0x66, 0x66, 0x66, 0x66, 0x66, 0x66, 0x66, 0x66, 0x66, 0x66, 0x66,
	0x66, 0x66, 0x66, 0x66, 0x66, 0x66, 0x66, 0x66, 0x66, 0x66, 0x66, 0x66, 0x66, 0x66, 0x66, 0x66,
}

// point is the pair x by z, y by z; t is x y by z. So no sum needs an inverse.
type point struct{ x, y, z, t [32]byte }

// one is the number 1.
func one() [32]byte {
	return [32]byte{1}
}

// at is the point x, y.
func at(x, y [32]byte) point {
	return point{x, y, one(), field.Mul(x, y)}
}

// base is B.
func base() point {
	return at(baseX, baseY)
}

// read reads a point's bytes.
func read(p [32]byte) (point, bool) {
	odd := p[31] >> 7
	y := p
	y[31] &= 127
	if field.Mod(y) != y {
		return point{}, false
	}
	yy := field.Mul(y, y)
	over, under := field.Sub(yy, one()), field.Add(field.Mul(d, yy), one())
	x, ok := field.Root(field.Mul(over, field.Inv(under)))
	if !ok || x == [32]byte{} && odd == 1 {
		return point{}, false
	}
	if odd == 1 {
		x = field.Sub([32]byte{}, x)
	}
	return at(x, y), true
}

// lay is a point's bytes.
func lay(p point) [32]byte {
	z := field.Inv(p.z)
	x, y := field.Mul(p.x, z), field.Mul(p.y, z)
	y[31] |= x[0] << 7
	return y
}

// add is the sum of two points, be they one or two.
func add(p, q point) point {
	a := field.Mul(field.Sub(p.y, p.x), field.Sub(q.y, q.x))
	b := field.Mul(field.Add(p.y, p.x), field.Add(q.y, q.x))
	c := field.Mul(field.Mul(p.t, twiceD), q.t)
	zz := field.Mul(p.z, q.z)
	twice := field.Add(zz, zz)
	e, f, g, h := field.Sub(b, a), field.Sub(twice, c), field.Add(twice, c), field.Add(b, a)
	return point{field.Mul(e, f), field.Mul(g, h), field.Mul(f, g), field.Mul(e, h)}
}

// times is n times p.
func times(n [32]byte, p point) point {
	sum := at([32]byte{}, one())
	for i := 255; i >= 0; i-- {
		sum = add(sum, sum)
		if n[i/8]>>(i%8)&1 == 1 {
			sum = add(sum, p)
		}
	}
	return sum
}
