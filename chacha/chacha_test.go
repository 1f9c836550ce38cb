package chacha

import (
	"bytes"
	"encoding/hex"
	"math/rand"
	"testing"
)

func known() ([32]byte, [12]byte) {
	var key [32]byte
	for i := range key {
		key[i] = byte(i)
	}
	return key, [12]byte{3: 9, 7: 0x4a}
}

func TestP3_1Block(t *testing.T) {
	key, nonce := known()
	got := Block(key, 1, nonce)
	want := "10f1e7e4d13b5915500fdd1fa32071c4c7d1f4c733c068030422aa9ac3d46c4ed2826446079faa0914c2d705d98b02a2b5129cd1de164eb9cbd083e8a2503c4e"
	if hex.EncodeToString(got[:]) != want {
		t.Errorf("%x", got)
	}
	zero := Block([32]byte{}, 0, [12]byte{})
	if hex.EncodeToString(zero[:]) != "76b8e0ada0f13d90405d6ae55386bd28bdd219b8a08ded1aa836efcc8b770dc7da41597c5157488d7724e03fb8d84a376a43b8f41518a11cc387b669b2ee6586" {
		t.Errorf("%x", zero)
	}
	last := Block([32]byte{}, 1, [12]byte{11: 2})
	if last == Block([32]byte{}, 1, [12]byte{}) {
		t.Error("the nonce's last byte does not count")
	}
}

// TestP3_1Sunscreen is RFC 8439, 2.4.2.
func TestP3_1Sunscreen(t *testing.T) {
	key, _ := known()
	text := "Ladies and Gentlemen of the class of '99: If I could offer you only one tip for the future, sunscreen would be it."
	got := Xor(key, 1, [12]byte{7: 0x4a}, []byte(text))
	want := "6e2e359a2568f98041ba0728dd0d6981e97e7aec1d4360c20a27afccfd9fae0bf91b65c5524733ab8f593dabcd62b3571639d624e65152ab8f530c359f0861d807ca0dbf500d6a6156a38e088a22b65e52bc514d16ccf806818ce91ab77937365af90bbf74a35be6b40b8eedf2785e42874d"
	if hex.EncodeToString(got) != want {
		t.Errorf("%x", got)
	}
}

func TestP3_1XorIsBlocks(t *testing.T) {
	key, nonce := known()
	for _, start := range []uint32{0, 7, 1<<32 - 1, 1<<32 - 2} {
		for _, n := range []int{0, 1, 63, 64, 65, 127, 128, 129, 300} {
			got := Xor(key, start, nonce, make([]byte, n))
			var want []byte
			for i := uint32(0); len(want) < n; i++ {
				b := Block(key, start+i, nonce)
				want = append(want, b[:]...)
			}
			if !bytes.Equal(got, want[:n]) {
				t.Error(start, n)
			}
		}
	}
}

func TestP3_2Twice(t *testing.T) {
	key, nonce := known()
	for n := range 200 {
		room := make([]byte, n+50)
		rand.New(rand.NewSource(int64(n))).Read(room)
		before := bytes.Clone(room)
		once := Xor(key, 5, nonce, room[:n])
		if n > 8 && bytes.Equal(once, before[:n]) {
			t.Error("not turned", n)
		}
		if !bytes.Equal(Xor(key, 5, nonce, once), before[:n]) || !bytes.Equal(room, before) {
			t.Error(n)
		}
	}
}
