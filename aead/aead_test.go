package aead

import (
	"bytes"
	"encoding/hex"
	"math/rand"
	"testing"

	"tryst/api"
)

const sunscreen = "Ladies and Gentlemen of the class of '99: If I could offer you only one tip for the future, sunscreen would be it."

func unhex(s string) []byte {
	b, _ := hex.DecodeString(s)
	return b
}

// rfc is RFC 8439, 2.8.2.
func rfc() (key [32]byte, nonce [12]byte, ad []byte) {
	for i := range key {
		key[i] = byte(0x80 + i)
	}
	copy(nonce[:], unhex("070000004041424344454647"))
	return key, nonce, unhex("50515253c0c1c2c3c4c5c6c7")
}

func TestP5_1Known(t *testing.T) {
	key, nonce, ad := rfc()
	box, e := Seal(key, nonce, ad, []byte(sunscreen))
	want := "d31a8d34648e60db7b86afbc53ef7ec2a4aded51296e08fea9e2b5a736ee62d63dbea45e8ca9671282fafb69da92728b1a71de0a9e060b2905d6a5b67ecd3b3692ddbd7f2d778b8c9803aee328091b58fab324e4fad675945585808b4831d7bc3ff4def08e4b7a9de576d26586cec64b61161ae10b594f09e26a7e902ecbd0600691"
	if e != api.OK || hex.EncodeToString(box) != want {
		t.Errorf("%v %x", e, box)
	}
}

func TestP5_1Lengths(t *testing.T) {
	key, nonce, _ := rfc()
	most := make([]byte, api.MaxBytes+1)
	for _, c := range []struct {
		ad, text int
		e        api.Errno
	}{{0, 0, api.OK}, {api.MaxBytes, api.MaxBytes, api.OK}, {api.MaxBytes + 1, 0, api.ErrLen}, {0, api.MaxBytes + 1, api.ErrLen}} {
		box, e := Seal(key, nonce, most[:c.ad], most[:c.text])
		if e != c.e || e == api.OK && len(box) != c.text+16 || e != api.OK && len(box) != 0 {
			t.Error(c, e, len(box))
		}
		if e != api.OK {
			continue
		}
		if text, e := Open(key, nonce, most[:c.ad], box); e != api.OK || len(text) != c.text {
			t.Error(c, e)
		}
	}
}

func TestP5_2Wrong(t *testing.T) {
	key, nonce, ad := rfc()
	box, _ := Seal(key, nonce, ad, []byte(sunscreen))
	for i := range box {
		box[i] ^= 4
		if text, e := Open(key, nonce, ad, box); e != api.ErrOpen || len(text) != 0 {
			t.Error("byte", i, e)
		}
		box[i] ^= 4
	}
	other, late := key, nonce
	other[31] ^= 128
	late[11] ^= 1
	for i, e := range []api.Errno{
		second(Open(other, nonce, ad, box)),
		second(Open(key, late, ad, box)),
		second(Open(key, nonce, ad[1:], box)),
		second(Open(key, nonce, append(bytes.Clone(ad), 0), box)),
		second(Open(key, nonce, ad, box[1:])),
		second(Open(key, nonce, ad, append(bytes.Clone(box), 0))),
		second(Open(key, nonce, nil, make([]byte, 16))),
		second(Open(key, nonce, nil, make([]byte, api.MaxBytes+16))),
	} {
		if e != api.ErrOpen {
			t.Error(i, e)
		}
	}
	for i, e := range []api.Errno{
		second(Open(key, nonce, make([]byte, api.MaxBytes+1), box)),
		second(Open(key, nonce, ad, nil)),
		second(Open(key, nonce, ad, box[:15])),
		second(Open(key, nonce, ad, make([]byte, api.MaxBytes+17))),
	} {
		if e != api.ErrLen {
			t.Error(i, e)
		}
	}
}

func second(_ []byte, e api.Errno) api.Errno { return e }

func TestP5_3Back(t *testing.T) {
	r := rand.New(rand.NewSource(3))
	for n := range 150 {
		var key [32]byte
		var nonce [12]byte
		r.Read(key[:])
		r.Read(nonce[:])
		ad, text := make([]byte, n/3), make([]byte, n)
		r.Read(ad)
		r.Read(text)
		adRoom, textRoom := append(bytes.Clone(ad), 1, 2), append(bytes.Clone(text), 3, 4)
		box, e := Seal(key, nonce, adRoom[:len(ad)], textRoom[:n])
		if e != api.OK || len(box) != n+16 {
			t.Fatal(n, e)
		}
		if !bytes.Equal(adRoom, append(bytes.Clone(ad), 1, 2)) || !bytes.Equal(textRoom, append(bytes.Clone(text), 3, 4)) {
			t.Fatal("changed what was handed in", n)
		}
		kept := bytes.Clone(box)
		got, e := Open(key, nonce, ad, box)
		if e != api.OK || !bytes.Equal(got, text) || !bytes.Equal(box, kept) {
			t.Fatal(n, e)
		}
		again, _ := Seal(key, nonce, ad, got)
		if !bytes.Equal(again, box) {
			t.Fatal("sealed again it is another box", n)
		}
	}
}
