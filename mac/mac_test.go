package mac

import (
	"bytes"
	"crypto/hkdf"
	"crypto/hmac"
	"crypto/sha256"
	"math/rand"
	"testing"

	"tryst/api"
)

func text(n int) []byte {
	b := make([]byte, n)
	rand.New(rand.NewSource(int64(n))).Read(b)
	return b
}

func TestP2_1Sum(t *testing.T) {
	got := Sum(bytes.Repeat([]byte{0x0b}, 20), []byte("Hi There"))
	if !bytes.HasPrefix(got[:], []byte{0xb0, 0x34, 0x4c, 0x61}) {
		t.Errorf("%x", got)
	}
	for _, n := range []int{0, 1, 31, 32, 63, 64, 65, 66, 127, 128, 200} {
		for _, m := range []int{0, 1, 55, 64, 300} {
			h := hmac.New(sha256.New, text(n))
			h.Write(text(m))
			got, extracted := Sum(text(n), text(m)), Extract(text(n), text(m))
			if !bytes.Equal(got[:], h.Sum(nil)) || extracted != got {
				t.Error(n, m)
			}
		}
	}
}

func TestP2_1LeavesWhatIsHandedIn(t *testing.T) {
	key, b := text(100)[:40], text(90)[:10]
	Sum(key, b)
	Expand(key, b, 100)
	if !bytes.Equal(key[:100], text(100)) || !bytes.Equal(b[:90], text(90)) {
		t.Error("changed")
	}
}

func TestP2_2Expand(t *testing.T) {
	for _, n := range []int{0, 1, 31, 32, 33, 64, 100, 8159, 8160} {
		for _, m := range []int{0, 5, 80} {
			want, err := hkdf.Expand(sha256.New, text(32), string(text(m)), n)
			got, e := Expand(text(32), text(m), n)
			if err != nil || e != api.OK || !bytes.Equal(got, want) {
				t.Error(n, m, e)
			}
		}
	}
	for _, n := range []int{-1, 8161, -1 << 63, 1<<63 - 1} {
		if got, e := Expand(text(32), nil, n); e != api.ErrLen || len(got) != 0 {
			t.Error(n, e)
		}
	}
}

func TestP2_3Beginnings(t *testing.T) {
	all, _ := Expand(text(7), text(9), 8160)
	for n := 0; n <= 8160; n += 97 {
		got, _ := Expand(text(7), text(9), n)
		if !bytes.HasPrefix(all, got) || len(got) != n {
			t.Error(n)
		}
	}
}
