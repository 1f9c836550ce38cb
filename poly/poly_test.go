package poly

import (
	"bytes"
	"encoding/hex"
	"math/big"
	"math/rand"
	"testing"
)

// value reads bytes as a number, the lowest first.
func value(b []byte) *big.Int {
	turned := bytes.Clone(b)
	for i, j := 0, len(turned)-1; i < j; i, j = i+1, j-1 {
		turned[i], turned[j] = turned[j], turned[i]
	}
	return new(big.Int).SetBytes(turned)
}

// slow is the tag by whole numbers without bounds.
func slow(key [32]byte, b []byte) [16]byte {
	mod := new(big.Int).Sub(new(big.Int).Lsh(big.NewInt(1), 130), big.NewInt(5))
	half := bytes.Clone(key[:16])
	for _, i := range []int{3, 7, 11, 15} {
		half[i] &= 15
	}
	for _, i := range []int{4, 8, 12} {
		half[i] &= 252
	}
	r, a := value(half), new(big.Int)
	for len(b) > 0 {
		n := min(16, len(b))
		a.Add(a, value(append(bytes.Clone(b[:n]), 1)))
		a.Mul(a, r).Mod(a, mod)
		b = b[n:]
	}
	a.Add(a, value(key[16:]))
	a.Mod(a, new(big.Int).Lsh(big.NewInt(1), 128))
	var tag [16]byte
	be := a.FillBytes(make([]byte, 16))
	for i := range tag {
		tag[i] = be[15-i]
	}
	return tag
}

func TestP4_1Known(t *testing.T) {
	b, _ := hex.DecodeString("85d6be7857556d337f4452fe42d506a80103808afb0db2fd4abff6af4149f51b")
	got := Tag([32]byte(b), []byte("Cryptographic Forum Research Group"))
	if hex.EncodeToString(got[:]) != "a8061dc1305136c6c22b8baf0c0127a9" {
		t.Errorf("%x", got)
	}
}

func TestP4_1Any(t *testing.T) {
	r := rand.New(rand.NewSource(1))
	for n := range 300 {
		var key [32]byte
		r.Read(key[:])
		if n%5 == 0 {
			key = [32]byte(bytes.Repeat([]byte{255}, 32))
		}
		b := make([]byte, n)
		r.Read(b)
		if n%3 == 0 {
			b = bytes.Repeat([]byte{255}, n)
		}
		room := append(bytes.Clone(b), 9, 9, 9)
		if Tag(key, room[:n]) != slow(key, b) || !bytes.Equal(room[n:], []byte{9, 9, 9}) {
			t.Errorf("%d: %x", n, key)
		}
	}
}

// TestP4_1Edges are sums about 2^130 - 5 and 2^128 (RFC 8439, A.3).
func TestP4_1Edges(t *testing.T) {
	for _, first := range []byte{1, 2, 4} {
		for _, last := range []byte{0, 255} {
			key := [32]byte{first}
			for i := 16; i < 32; i++ {
				key[i] = last
			}
			for low := range 256 {
				for _, rest := range []byte{0, 254, 255} {
					b := bytes.Repeat([]byte{rest}, 48)
					b[0], b[16], b[32] = byte(low), byte(255-low), byte(low)
					for _, n := range []int{16, 32, 48} {
						if Tag(key, b[:n]) != slow(key, b[:n]) {
							t.Fatal(first, last, low, rest, n)
						}
					}
				}
			}
		}
	}
}

func TestP4_2Noughts(t *testing.T) {
	key := [32]byte{16: 7, 31: 200}
	s := [16]byte(key[16:])
	for n := range 100 {
		if Tag(key, bytes.Repeat([]byte{byte(n)}, n)) != s {
			t.Error("r is 0", n)
		}
	}
	key[0] = 9
	if Tag(key, nil) != s || Tag(key, []byte{}) != s {
		t.Error("no bytes")
	}
}
