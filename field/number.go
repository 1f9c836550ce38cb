package field

import "math/bits"

// number is one below 2^256, in four words, the lowest first.
type number [4]uint64

// The words of p are low, all, all, high.
const (
	all  = 1<<64 - 1
	low  = all - 18
	high = 1<<63 - 1
)

// read reads 32 bytes, the lowest first.
func read(a [32]byte) number {
	var n number
	for i := range n {
		b := a[8*i : 8*i+8]
		n[i] = uint64(b[0]) | uint64(b[1])<<8 | uint64(b[2])<<16 | uint64(b[3])<<24 |
			uint64(b[4])<<32 | uint64(b[5])<<40 | uint64(b[6])<<48 | uint64(b[7])<<56
	}
	return n
}

// lay is a number's bytes.
func lay(n number) [32]byte {
	var a [32]byte
	for i, w := range n {
		b := a[8*i : 8*i+8]
		b[0], b[1], b[2], b[3] = byte(w), byte(w>>8), byte(w>>16), byte(w>>24)
		b[4], b[5], b[6], b[7] = byte(w>>32), byte(w>>40), byte(w>>48), byte(w>>56)
	}
	return a
}

// plus is n and a word, and what goes over 2^256.
func plus(n number, w uint64) (number, uint64) {
	var c uint64
	n[0], c = bits.Add64(n[0], w, 0)
	n[1], c = bits.Add64(n[1], 0, c)
	n[2], c = bits.Add64(n[2], 0, c)
	n[3], c = bits.Add64(n[3], 0, c)
	return n, c
}

// least is n modulo p.
func least(n number) number {
	// 2^255 is 19.
	top := n[3] >> 63
	n[3] &= high
	n, _ = plus(n, 19*top)
	// n is p or more just if 19 more reach 2^255; then n - p is these without 2^255.
	if over, _ := plus(n, 19); over[3]>>63 == 1 {
		n = over
		n[3] &= high
	}
	return n
}

// add is the sum of two numbers below p.
func add(a, b number) number {
	var c uint64
	a[0], c = bits.Add64(a[0], b[0], 0)
	a[1], c = bits.Add64(a[1], b[1], c)
	a[2], c = bits.Add64(a[2], b[2], c)
	a[3], _ = bits.Add64(a[3], b[3], c)
	return least(a)
}

// negative is p less a number below p, modulo p.
func negative(a number) number {
	var n number
	var c uint64
	n[0], c = bits.Sub64(low, a[0], 0)
	n[1], c = bits.Sub64(all, a[1], c)
	n[2], c = bits.Sub64(all, a[2], c)
	n[3], _ = bits.Sub64(high, a[3], c)
	return least(n)
}

// mulWord puts a times w to the words of n, and is what goes over them.
func mulWord(n *number, a number, w uint64) uint64 {
	var over uint64
	for i := range a {
		h, l := bits.Mul64(a[i], w)
		var c uint64
		l, c = bits.Add64(l, over, 0)
		h += c
		n[i], c = bits.Add64(n[i], l, 0)
		over = h + c
	}
	return over
}

// mul is the product modulo p.
func mul(a, b number) number {
	var lower, window number
	// The window holds the four words of the product that b[i] is put to; the lowest of them is then done.
	for i := range b {
		over := mulWord(&window, a, b[i])
		lower[i] = window[0]
		window = number{window[1], window[2], window[3], over}
	}
	// What is left in the window counts 2^256 times, which is 38.
	over := mulWord(&lower, window, 38)
	n, c := plus(lower, 38*over)
	n, _ = plus(n, 38*c)
	return least(n)
}

// pow is a to the power e, modulo p.
func pow(a, e number) number {
	n := number{1}
	for i := 255; i >= 0; i-- {
		n = mul(n, n)
		if e[i/64]>>(i%64)&1 == 1 {
			n = mul(n, a)
		}
	}
	return n
}
