package dh

import (
	"bytes"
	"crypto/ecdh"
	"encoding/hex"
	"math/rand"
	"testing"

	"tryst/api"
)

func unhex(s string) [32]byte {
	b, _ := hex.DecodeString(s)
	return [32]byte(b)
}

// TestP7_1Known is RFC 7748, 5.2.
func TestP7_1Known(t *testing.T) {
	for _, c := range []struct{ key, place, want string }{
		{"a546e36bf0527c9d3b16154b82465edd62144c0ac1fc5a18506a2244ba449ac4", "e6db6867583030db3594c1a424b15f7c726624ec26b3353b10a903a6d0ab1c4c", "c3da55379de9c6908e94ea4df28d084f32eccf03491c71f754b4075577a28552"},
		{"4b66e9d4d1b4673c5ad22691957d6af5c11b6421e0ea01d42ca4169e7918ba0d", "e5210f12786811d3f4b7959d0538ae2c31dbe7106fc03c3efc4cd549c715a493", "95cbde9476e8907d7aade45cb4b873f88b595a68799fa152e6f8f7647aac7957"},
	} {
		got, e := Shared(unhex(c.key), unhex(c.place))
		if e != api.OK || got != unhex(c.want) {
			t.Errorf("%v %x", e, got)
		}
	}
	key, place := [32]byte{9}, [32]byte{9}
	for range 1000 {
		next, _ := Shared(key, place)
		key, place = next, key
	}
	if key != unhex("684cf59ba83309552800ef566f2f4d3c1c3887c49360e3875f2eb94d99532c51") {
		t.Errorf("a thousand times: %x", key)
	}
}

func TestP7_1Public(t *testing.T) {
	r := rand.New(rand.NewSource(7))
	for range 20 {
		var key [32]byte
		r.Read(key[:])
		own, err := ecdh.X25519().NewPrivateKey(key[:])
		got := Public(key)
		if err != nil || !bytes.Equal(got[:], own.PublicKey().Bytes()) {
			t.Errorf("%x: %x", key, got)
		}
		nine, e := Shared(key, [32]byte{9})
		if e != api.OK || nine != got {
			t.Error("Public is not the product with 9")
		}
		// the bits that do not count
		key[0] ^= 7
		key[31] ^= 192
		high, _ := Shared(key, [32]byte{0: 9, 31: 128})
		if Public(key) != got || high != got {
			t.Error("a bit counts that should not")
		}
	}
}

func TestP7_1Zero(t *testing.T) {
	p := unhex("edffffffffffffffffffffffffffffffffffffffffffffffffffffffffffff7f")
	next := p
	next[0]++
	before := p
	before[0]--
	for i, place := range [][32]byte{
		{}, {1}, p, next, before, {31: 128},
		unhex("e0eb7a7c3b41b8ae1656e3faf19fc46ada098deb9c32b1fd866205165f49b800"),
		unhex("5f9c95bca3508c24b1d0b1559c83ef5b04445cc4581c8e86d8224eddd09f1157"),
	} {
		got, e := Shared([32]byte{5, 6, 7}, place)
		if e != api.ErrZero || got != ([32]byte{}) {
			t.Error(i, e)
		}
	}
	// a place beyond p is what is left of it
	beyond := p
	beyond[0] += 9
	got, e := Shared([32]byte{5, 6, 7}, beyond)
	if e != api.OK || got != Public([32]byte{5, 6, 7}) {
		t.Error("beyond p", e)
	}
}

func TestP7_2Both(t *testing.T) {
	r := rand.New(rand.NewSource(8))
	for range 20 {
		var a, b [32]byte
		r.Read(a[:])
		r.Read(b[:])
		x, e := Shared(a, Public(b))
		y, f := Shared(b, Public(a))
		if e != api.OK || f != api.OK || x != y || x == ([32]byte{}) {
			t.Errorf("%x %x", a, b)
		}
	}
}
