package field

import "math/bits"

// number is one below 2^256, in four words, the lowest first.
type number struct{ w0, w1, w2, w3 uint64 }

// The words of p are low, all, all, high.
const (
	all  = 1<<64 - 1
	low  = all - 18
	high = 1<<63 - 1
)

// read reads 32 bytes, the lowest first.
func read(a [32]byte) number {
	return number{readWord(a[0:8]), readWord(a[8:16]), readWord(a[16:24]), readWord(a[24:32])}
}

// readWord reads 8 bytes, the lowest first.
func readWord(b []byte) uint64 {
	_ = b[7]
	return uint64(b[0]) | uint64(b[1])<<8 | uint64(b[2])<<16 | uint64(b[3])<<24 |
		uint64(b[4])<<32 | uint64(b[5])<<40 | uint64(b[6])<<48 | uint64(b[7])<<56
}

// lay is a number's bytes.
func lay(n number) [32]byte {
	var a [32]byte
	layWord(a[0:8], n.w0)
	layWord(a[8:16], n.w1)
	layWord(a[16:24], n.w2)
	layWord(a[24:32], n.w3)
	return a
}

// layWord lays a word into 8 bytes, the lowest first.
func layWord(b []byte, w uint64) {
	_ = b[7]
	b[0], b[1], b[2], b[3] = byte(w), byte(w>>8), byte(w>>16), byte(w>>24)
	b[4], b[5], b[6], b[7] = byte(w>>32), byte(w>>40), byte(w>>48), byte(w>>56)
}

// plus is n and a word, and what goes over 2^256.
func plus(n number, w uint64) (number, uint64) {
	var c uint64
	n.w0, c = bits.Add64(n.w0, w, 0)
	n.w1, c = bits.Add64(n.w1, 0, c)
	n.w2, c = bits.Add64(n.w2, 0, c)
	n.w3, c = bits.Add64(n.w3, 0, c)
	return n, c
}

// least is n modulo p.
func least(n number) number {
	// 2^255 is 19.
	top := n.w3 >> 63
	n.w3 &= high
	n, _ = plus(n, 19*top)
	// n is p or more just if 19 more reach 2^255; then n - p is these without 2^255.
	if over, _ := plus(n, 19); over.w3>>63 == 1 {
		over.w3 &= high
		return over
	}
	return n
}

// add is the sum of two numbers below p.
func add(a, b number) number {
	var c uint64
	a.w0, c = bits.Add64(a.w0, b.w0, 0)
	a.w1, c = bits.Add64(a.w1, b.w1, c)
	a.w2, c = bits.Add64(a.w2, b.w2, c)
	a.w3, _ = bits.Add64(a.w3, b.w3, c)
	return least(a)
}

// negative is p less a number below p, modulo p.
func negative(a number) number {
	var c uint64
	a.w0, c = bits.Sub64(low, a.w0, 0)
	a.w1, c = bits.Sub64(all, a.w1, c)
	a.w2, c = bits.Sub64(all, a.w2, c)
	a.w3, _ = bits.Sub64(high, a.w3, c)
	return least(a)
}

// mulWord is n and a times w, and what goes over 2^256.
func mulWord(n, a number, w uint64) (number, uint64) {
	var c uint64
	h0, l0 := bits.Mul64(a.w0, w)
	h1, l1 := bits.Mul64(a.w1, w)
	h2, l2 := bits.Mul64(a.w2, w)
	h3, l3 := bits.Mul64(a.w3, w)
	l1, c = bits.Add64(l1, h0, 0)
	l2, c = bits.Add64(l2, h1, c)
	l3, c = bits.Add64(l3, h2, c)
	h3 += c
	n.w0, c = bits.Add64(n.w0, l0, 0)
	n.w1, c = bits.Add64(n.w1, l1, c)
	n.w2, c = bits.Add64(n.w2, l2, c)
	n.w3, c = bits.Add64(n.w3, l3, c)
	return n, h3 + c
}

// mul is the product modulo p.
func mul(a, b number) number {
	// The window holds what of the product is not done yet: with each word of b its lowest word is.
	var lower, window number
	var over uint64
	window, over = mulWord(window, a, b.w0)
	lower.w0, window = window.w0, number{window.w1, window.w2, window.w3, over}
	window, over = mulWord(window, a, b.w1)
	lower.w1, window = window.w0, number{window.w1, window.w2, window.w3, over}
	window, over = mulWord(window, a, b.w2)
	lower.w2, window = window.w0, number{window.w1, window.w2, window.w3, over}
	window, over = mulWord(window, a, b.w3)
	lower.w3, window = window.w0, number{window.w1, window.w2, window.w3, over}
	// What is left in the window counts 2^256 times, which is 38.
	n, over := mulWord(lower, window, 38)
	n, over = plus(n, 38*over)
	n, _ = plus(n, 38*over)
	return least(n)
}

// pow is a to the power e, modulo p.
func pow(a, e number) number {
	n := number{w0: 1}
	for _, w := range [4]uint64{e.w3, e.w2, e.w1, e.w0} {
		for i := 63; i >= 0; i-- {
			n = mul(n, n)
			if w>>i&1 == 1 {
				n = mul(n, a)
			}
		}
	}
	return n
}
