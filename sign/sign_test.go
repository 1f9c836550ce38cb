package sign

import (
	"bytes"
	"crypto/ed25519"
	"encoding/hex"
	"math/big"
	"math/rand"
	"testing"

	"tryst/api"
	"tryst/curve"
)

func unhex(s string) []byte {
	b, _ := hex.DecodeString(s)
	return b
}

// TestP9_1Known is RFC 8032, 7.1.
func TestP9_1Known(t *testing.T) {
	for _, c := range []struct{ seed, pub, text, sig string }{
		{"9d61b19deffd5a60ba844af492ec2cc44449c5697b326919703bac031cae7f60", "d75a980182b10ab7d54bfed3c964073a0ee172f3daa62325af021a68f707511a", "",
			"e5564300c360ac729086e2cc806e828a84877f1eb8e5d974d873e065224901555fb8821590a33bacc61e39701cf9b46bd25bf5f0595bbe24655141438e7a100b"},
		{"4ccd089b28ff96da9db6c346ec114e0f5b8a319f35aba624da8cf6ed4fb8a6fb", "3d4017c3e843895a92b70aa74d1b7ebc9c982ccf2ec4968cc0cd55f12af4660c", "72",
			"92a009a9f0d4cab8720e820b5f642540a2b27b5416503f8fb3762223ebdb69da085ac1e43e15996e458f3613d0f11d8c387b2eaeb4302aeeb00d291612bb0c00"},
	} {
		seed := [32]byte(unhex(c.seed))
		pub := Public(seed)
		sig, e := Sign(seed, unhex(c.text))
		if e != api.OK || hex.EncodeToString(pub[:]) != c.pub || hex.EncodeToString(sig[:]) != c.sig {
			t.Errorf("%v %x %x", e, pub, sig)
		}
	}
}

func TestP9_1Any(t *testing.T) {
	r := rand.New(rand.NewSource(9))
	for n := range 60 {
		var seed [32]byte
		r.Read(seed[:])
		room := make([]byte, n*5+10)
		r.Read(room)
		before := bytes.Clone(room)
		key := ed25519.NewKeyFromSeed(seed[:])
		pub := Public(seed)
		sig, e := Sign(seed, room[:n*5])
		if e != api.OK || !bytes.Equal(sig[:], ed25519.Sign(key, room[:n*5])) || !bytes.Equal(pub[:], key.Public().(ed25519.PublicKey)) {
			t.Fatal(n, e)
		}
		if !bytes.Equal(room, before) {
			t.Error("changed")
		}
	}
}

func TestP9_1Lengths(t *testing.T) {
	most := make([]byte, api.MaxBytes+1)
	sig, e := Sign([32]byte{3}, most[:api.MaxBytes])
	if e != api.OK || !Verify(Public([32]byte{3}), most[:api.MaxBytes], sig) {
		t.Error(e)
	}
	over := ed25519.Sign(ed25519.NewKeyFromSeed(make([]byte, 32)), most)
	if Verify(Public([32]byte{}), most, [64]byte(over)) {
		t.Error("too long a text verifies")
	}
	if sig, e := Sign([32]byte{3}, most); e != api.ErrLen || sig != ([64]byte{}) {
		t.Error(e)
	}
}

func TestP9_2Wrong(t *testing.T) {
	seed := [32]byte{1, 2, 3}
	text := []byte("a text")
	pub := Public(seed)
	sig, _ := Sign(seed, text)
	for i := range 512 {
		bad := sig
		bad[i/8] ^= 1 << (i % 8)
		if Verify(pub, text, bad) {
			t.Error("sig", i)
		}
	}
	for i := range 256 {
		bad := pub
		bad[i/8] ^= 1 << (i % 8)
		if Verify(bad, text, sig) {
			t.Error("pub", i)
		}
	}
	if Verify(pub, []byte("a texT"), sig) || Verify(pub, text[:5], sig) || Verify(pub, nil, sig) {
		t.Error("text")
	}
}

// TestP9_2NotBelowL: S and L more is the same number, but is not below L.
func TestP9_2NotBelowL(t *testing.T) {
	seed, text := [32]byte{7}, []byte("x")
	sig, _ := Sign(seed, text)
	l, _ := new(big.Int).SetString("7237005577332262213973186563042994240857116359379907606001950938285454250989", 10)
	turned := make([]byte, 32)
	for i := range 32 {
		turned[31-i] = sig[32+i]
	}
	over := new(big.Int).Add(new(big.Int).SetBytes(turned), l).FillBytes(make([]byte, 32))
	for i := range 32 {
		sig[32+i] = over[31-i]
	}
	if Verify(Public(seed), text, sig) {
		t.Error("S is not below L")
	}
}

// TestP9_2Small: with a point of order 1 as pub, R and S of any r verify; what is no point never does.
func TestP9_2Small(t *testing.T) {
	one := [32]byte{1}
	var sig [64]byte
	sig[0] = 1
	if !Verify(one, []byte("anything"), sig) {
		t.Error("0 times B is the sum of two noughts")
	}
	if Verify([32]byte{2}, []byte("anything"), sig) {
		t.Error("pub is no point")
	}
	sig[0] = 2
	if Verify(one, []byte("anything"), sig) {
		t.Error("R is no point")
	}
	sig[0], sig[31] = 1, 128
	if Verify(one, []byte("anything"), sig) {
		t.Error("R is no point")
	}
}

// TestP9_2NoPoint: what is no point is not taken for the point whose bytes are noughts.
func TestP9_2NoPoint(t *testing.T) {
	s := [32]byte{5}
	place, _ := curve.Add(curve.Base(s), [32]byte{31: 128})
	var sig [64]byte
	copy(sig[:32], place[:])
	copy(sig[32:], s[:])
	if sum, _ := curve.Add(place, [32]byte{}); sum != curve.Base(s) {
		t.Fatal("the sum would not fit")
	}
	if Verify([32]byte{2}, []byte("x"), sig) {
		t.Error("pub is no point")
	}
}

func TestP9_3Back(t *testing.T) {
	r := rand.New(rand.NewSource(10))
	for n := range 50 {
		var seed [32]byte
		r.Read(seed[:])
		text := make([]byte, n*3)
		r.Read(text)
		sig, e := Sign(seed, text)
		if e != api.OK || !Verify(Public(seed), text, sig) {
			t.Error(n, e)
		}
	}
}
