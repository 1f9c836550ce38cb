package curve

import "math/bits"

// scalar is a number below 2^256, wide one below 2^512: the lowest word first.
type (
	scalar [4]uint64
	wide   [8]uint64
)

// order is L.
var order = [4]uint64{0x5812631a5cf5d3ed, 0x14def9dea2f79cd6, 0, 0x1000000000000000}

// readScalar reads 32 bytes, the lowest first.
func readScalar(b [32]byte) scalar {
	var n scalar
	for i, c := range b {
		n[i/8] |= uint64(c) << (8 * (i % 8))
	}
	return n
}

// layScalar is a number's bytes.
func layScalar(n scalar) [32]byte {
	var b [32]byte
	for i := range b {
		b[i] = byte(n[i/8] >> (8 * (i % 8)))
	}
	return b
}

// minusL is n less L, and whether n is the lesser one.
func minusL(n scalar) (scalar, bool) {
	var c uint64
	for i := range n {
		n[i], c = bits.Sub64(n[i], order[i], c)
	}
	return n, c == 1
}

// reduce is w modulo L, bit by bit from the highest one: what is left stays below L, which is below 2^253.
func reduce(w wide) scalar {
	var n scalar
	for i := 511; i >= 0; i-- {
		carry := w[i/64] >> (i % 64) & 1
		for j := range n {
			n[j], carry = n[j]<<1|carry, n[j]>>63
		}
		if m, less := minusL(n); !less {
			n = m
		}
	}
	return n
}

// mulAdd is a times b, and c: it is below 2^512.
func mulAdd(a, b, c scalar) wide {
	var w wide
	copy(w[:], c[:])
	for i := range a {
		var over uint64
		for j := range b {
			h, l := bits.Mul64(a[i], b[j])
			var carry uint64
			l, carry = bits.Add64(l, over, 0)
			h += carry
			w[i+j], carry = bits.Add64(w[i+j], l, 0)
			over = h + carry
		}
		// No row ahead of this one reached so far.
		w[i+4] = over
	}
	return w
}
