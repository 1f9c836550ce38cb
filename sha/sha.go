// Package sha is layer 1: SHA-256 and SHA-512.
package sha

import "math/bits"

// k256 are the first bits behind the point of the cube roots of the first 64 primes.
var k256 = [64]uint32{
	0x428a2f98, 0x71374491, 0xb5c0fbcf, 0xe9b5dba5, 0x3956c25b, 0x59f111f1, 0x923f82a4, 0xab1c5ed5,
	0xd807aa98, 0x12835b01, 0x243185be, 0x550c7dc3, 0x72be5d74, 0x80deb1fe, 0x9bdc06a7, 0xc19bf174,
	0xe49b69c1, 0xefbe4786, 0x0fc19dc6, 0x240ca1cc, 0x2de92c6f, 0x4a7484aa, 0x5cb0a9dc, 0x76f988da,
	0x983e5152, 0xa831c66d, 0xb00327c8, 0xbf597fc7, 0xc6e00bf3, 0xd5a79147, 0x06ca6351, 0x14292967,
	0x27b70a85, 0x2e1b2138, 0x4d2c6dfc, 0x53380d13, 0x650a7354, 0x766a0abb, 0x81c2c92e, 0x92722c85,
	0xa2bfe8a1, 0xa81a664b, 0xc24b8b70, 0xc76c51a3, 0xd192e819, 0xd6990624, 0xf40e3585, 0x106aa070,
	0x19a4c116, 0x1e376c08, 0x2748774c, 0x34b0bcb5, 0x391c0cb3, 0x4ed8aa4a, 0x5b9cca4f, 0x682e6ff3,
	0x748f82ee, 0x78a5636f, 0x84c87814, 0x8cc70208, 0x90befffa, 0xa4506ceb, 0xbef9a3f7, 0xc67178f2,
}

// h256 are the first bits behind the point of the square roots of the first 8 primes.
var h256 = [8]uint32{
	0x6a09e667, 0xbb67ae85, 0x3c6ef372, 0xa54ff53a, 0x510e527f, 0x9b05688c, 0x1f83d9ab, 0x5be0cd19,
}

// Sum256 is the SHA-256 of b.
func Sum256(b []byte) [32]byte {
	h := h256
	whole := len(b) - len(b)%64
	for at := 0; at < whole; at += 64 {
		turn256(&h, b[at:at+64])
	}
	end256(&h, b[whole:], uint64(len(b)))
	var sum [32]byte
	for i, w := range h {
		put32(sum[4*i:], w)
	}
	return sum
}

// end256 turns the rest of a text of so many bytes, and what is laid behind it.
func end256(h *[8]uint32, rest []byte, length uint64) {
	var block [64]byte
	copy(block[:], rest)
	block[len(rest)] = 128
	switch {
	case len(rest) >= 56:
		// The length has no room here: it stands in one more block.
		turn256(h, block[:])
		block = [64]byte{}
		fallthrough
	default:
		put32(block[56:], uint32(length>>29))
		put32(block[60:], uint32(length<<3))
		turn256(h, block[:])
	}
}

// words256 makes a block of 64 bytes its 64 words.
func words256(block []byte) [64]uint32 {
	var w [64]uint32
	for t := range 16 {
		b := block[4*t : 4*t+4]
		w[t] = uint32(b[0])<<24 | uint32(b[1])<<16 | uint32(b[2])<<8 | uint32(b[3])
	}
	for t := 16; t < 64; t++ {
		x, y := w[t-15], w[t-2]
		s0 := bits.RotateLeft32(x, -7) ^ bits.RotateLeft32(x, -18) ^ x>>3
		s1 := bits.RotateLeft32(y, -17) ^ bits.RotateLeft32(y, -19) ^ y>>10
		w[t] = s1 + w[t-7] + s0 + w[t-16]
	}
	return w
}

// turn256 takes a block of 64 bytes into h.
func turn256(h *[8]uint32, block []byte) {
	w := words256(block)
	v := *h
	for t := range 64 {
		a, e := v[0], v[4]
		great1 := bits.RotateLeft32(e, -6) ^ bits.RotateLeft32(e, -11) ^ bits.RotateLeft32(e, -25)
		great0 := bits.RotateLeft32(a, -2) ^ bits.RotateLeft32(a, -13) ^ bits.RotateLeft32(a, -22)
		t1 := v[7] + great1 + (e&v[5] ^ ^e&v[6]) + k256[t] + w[t]
		t2 := great0 + (a&v[1] ^ a&v[2] ^ v[1]&v[2])
		v = [8]uint32{t1 + t2, a, v[1], v[2], v[3] + t1, e, v[5], v[6]}
	}
	for i := range h {
		h[i] += v[i]
	}
}

// put32 lays a word into b, the highest byte first.
func put32(b []byte, w uint32) {
	b[0], b[1], b[2], b[3] = byte(w>>24), byte(w>>16), byte(w>>8), byte(w)
}
