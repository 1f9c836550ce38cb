package sha

import (
	"bytes"
	"crypto/sha256"
	"crypto/sha512"
	"encoding/hex"
	"math/rand"
	"testing"
)

// text makes n bytes that look like nothing.
func text(n int) []byte {
	b := make([]byte, n)
	rand.New(rand.NewSource(int64(n))).Read(b)
	return b
}

func TestP1_1Known(t *testing.T) {
	for _, c := range []struct{ text, small, great string }{
		{"", "e3b0c44298fc1c149afbf4c8996fb92427ae41e4649b934ca495991b7852b855", "cf83e1357eefb8bdf1542850d66d8007d620e4050b5715dc83f4a921d36ce9ce47d0d13c5d85f2b0ff8318d2877eec2f63b931bd47417a81a538327af927da3e"},
		{"abc", "ba7816bf8f01cfea414140de5dae2223b00361a396177a9cb410ff61f20015ad", "ddaf35a193617abacc417349ae20413112e6fa4e89a97ea20a9eeee64b55d39a2192992a274fc1a836ba3c23a3feebbd454d4423643ce80e2a9ac94fa54ca49f"},
	} {
		small, great := Sum256([]byte(c.text)), Sum512([]byte(c.text))
		if hex.EncodeToString(small[:]) != c.small || hex.EncodeToString(great[:]) != c.great {
			t.Errorf("%q: %x %x", c.text, small, great)
		}
	}
	if Sum256(nil) != Sum256([]byte{}) || Sum512(nil) != Sum512([]byte{}) {
		t.Error("nil is not an empty text")
	}
}

func TestP1_1AllLengths(t *testing.T) {
	for n := range 600 {
		b := text(n)
		if Sum256(b) != sha256.Sum256(b) || Sum512(b) != sha512.Sum512(b) {
			t.Fatal(n)
		}
	}
	b := text(1 << 20)
	if Sum256(b) != sha256.Sum256(b) || Sum512(b) != sha512.Sum512(b) {
		t.Fatal("long")
	}
}

func TestP1_2BytesAlone(t *testing.T) {
	long := text(400)
	for _, n := range []int{0, 1, 55, 56, 63, 64, 111, 112, 127, 128, 200} {
		part, copied := long[:n], bytes.Clone(long[:n])
		before := bytes.Clone(long)
		if Sum256(part) != Sum256(copied) || Sum512(part) != Sum512(copied) {
			t.Error("what lies behind the text counts", n)
		}
		if !bytes.Equal(long, before) {
			t.Error("the text or its spare room was changed", n)
		}
		for i := range n {
			copied[i] ^= 1
			if Sum256(part) == Sum256(copied) || Sum512(part) == Sum512(copied) {
				t.Error("a byte does not count", n, i)
			}
			copied[i] ^= 1
		}
	}
}
