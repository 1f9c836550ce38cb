package real

import (
	"bytes"
	"crypto/ecdh"
	"crypto/ed25519"
	"crypto/hkdf"
	"crypto/hmac"
	"crypto/sha256"
	"encoding/binary"
	"math/rand"
	"slices"
	"testing"

	"tryst/aead"
	"tryst/api"
	"tryst/term"
)

func put(t *testing.T, a *term.Arena, kind, n int, args ...int) int {
	t.Helper()
	i, e := a.Make(kind, n, args...)
	if e != api.OK {
		t.Fatal(kind, n, args, e)
	}
	return i
}

func TestP12_1JoinSplit(t *testing.T) {
	for _, l := range [][][]byte{nil, {{}}, {{1, 2, 3}}, {{}, {}, {7}}, {bytes.Repeat([]byte{1}, 300), {2}}, {make([]byte, api.MaxBytes-4)}} {
		var want []byte
		for _, b := range l {
			want = binary.LittleEndian.AppendUint32(want, uint32(len(b)))
			want = append(want, b...)
		}
		got, e := Join(l)
		if e != api.OK || !bytes.Equal(got, want) {
			t.Error(len(l), e)
		}
		back, e := Split(append(bytes.Clone(got), 9)[:len(got)])
		if e != api.OK || !slices.EqualFunc(back, l, bytes.Equal) {
			t.Error(len(l), e)
		}
	}
	for _, l := range [][][]byte{{make([]byte, api.MaxBytes-3)}, {make([]byte, api.MaxBytes-8), {1}}} {
		if got, e := Join(l); e != api.ErrLen || len(got) != 0 {
			t.Error(e)
		}
	}
	long := make([]byte, api.MaxBytes+4)
	for _, b := range [][]byte{{1}, {0, 0, 0}, {1, 0, 0, 0}, {0, 0, 0, 0, 0}, {2, 0, 0, 0, 5}, {255, 255, 255, 255, 1}, {0, 0, 0, 128}, long} {
		if got, e := Split(b); e != api.ErrLen || len(got) != 0 {
			t.Error(len(b), e)
		}
	}
	if l, e := Split(long[:api.MaxBytes]); e != api.OK || len(l) != api.MaxBytes/4 {
		t.Error(len(l), e)
	}
}

func TestP12_1NothingShared(t *testing.T) {
	b := []byte{1, 0, 0, 0, 5, 1, 0, 0, 0, 6}
	l, _ := Split(b)
	_ = append(l[0], 9, 9, 9, 9, 9)
	l[0][0] = 77
	if l[1][0] != 6 || b[4] != 5 {
		t.Error("parts share memory")
	}
	if Key([]byte("x")) != sha256.Sum256([]byte("x")) {
		t.Error("Key")
	}
}

// join is Join by other means.
func join(l ...[]byte) []byte {
	var out []byte
	for _, b := range l {
		out = binary.LittleEndian.AppendUint32(out, uint32(len(b)))
		out = append(out, b...)
	}
	return out
}

func hash(word string, b []byte) []byte {
	s := sha256.Sum256(append([]byte(word), b...))
	return s[:]
}

func number(n int) []byte { return binary.LittleEndian.AppendUint64(nil, uint64(n)) }

// both are a key's public parts, by other means.
func both(key [32]byte) []byte {
	own, _ := ecdh.X25519().NewPrivateKey(key[:])
	return append(own.PublicKey().Bytes(), ed25519.NewKeyFromSeed(key[:]).Public().(ed25519.PublicKey)...)
}

func TestP12_2Kinds(t *testing.T) {
	a := term.New()
	x, y := put(t, a, api.Atom, 1<<40+7), put(t, a, api.Word, 300)
	h := put(t, a, api.Hash, 0, x, y)
	d := put(t, a, api.Kdf, 9, h)
	p := put(t, a, api.Pub, 0, d)
	s := put(t, a, api.Seal, 0, d, x, y)
	b := put(t, a, api.Box, 0, p, x, y, h)
	g := put(t, a, api.Sig, 0, x, y, s)
	l := put(t, a, api.List, 0, b, g)
	xb, yb := hash("atom", number(1<<40+7)), hash("word", number(300))
	hb := hash("hash", join(xb, yb))
	hk := sha256.Sum256(hb)
	db, _ := hkdf.Expand(sha256.New, hk[:], "kdf"+string(number(9)), 32)
	dk, xk := sha256.Sum256(db), sha256.Sum256(xb)
	sb, _ := aead.Seal(dk, [12]byte{}, nil, join(xb, yb))
	own, _ := ecdh.X25519().NewPrivateKey(xk[:])
	other, _ := ecdh.X25519().NewPublicKey(both(dk)[:32])
	shared, _ := own.ECDH(other)
	m := hmac.New(sha256.New, []byte("box"))
	m.Write(shared)
	inner, _ := aead.Seal([32]byte(m.Sum(nil)), [12]byte{}, nil, join(yb, hb))
	bb := append(own.PublicKey().Bytes(), inner...)
	text := join(yb, sb)
	gb := append(ed25519.Sign(ed25519.NewKeyFromSeed(xk[:]), text), text...)
	for i, want := range map[int][]byte{x: xb, y: yb, h: hb, d: db, p: both(dk), s: sb, b: bb, g: gb, l: join(bb, gb)} {
		got, e := Bytes(a, i)
		if e != api.OK || !bytes.Equal(got, want) {
			t.Errorf("%d %v\n%x\n%x", i, e, got, want)
		}
	}
	empty := put(t, a, api.List, 0)
	if got, e := Bytes(a, empty); e != api.OK || len(got) != 0 {
		t.Error("List of none", got, e)
	}
	bare := put(t, a, api.Sig, 0, x)
	if got, e := Bytes(a, bare); e != api.OK || len(got) != 64 {
		t.Error("Sig of nothing", len(got), e)
	}
}

func TestP12_2Errors(t *testing.T) {
	a := term.New()
	x := put(t, a, api.Atom, 1)
	p := put(t, a, api.Pub, 0, x)
	odd := put(t, a, api.Box, 0, x, x, x)
	over := put(t, a, api.List, 0, odd)
	for _, c := range []struct {
		i int
		e api.Errno
	}{{-1, api.ErrNone}, {99, api.ErrNone}, {odd, api.ErrKind}, {over, api.ErrKind}} {
		if b, e := Bytes(a, c.i); e != c.e || len(b) != 0 {
			t.Error(c, e)
		}
	}
	// lists that grow, each four times as long as the last one, till one is too long
	l := put(t, a, api.List, 0, x)
	for last := 0; ; {
		b, e := Bytes(a, l)
		if e != api.OK {
			if e != api.ErrLen || len(b) != 0 || last < api.MaxBytes/5 {
				t.Error(last, e)
			}
			break
		}
		last = len(b)
		l = put(t, a, api.List, 0, l, l, l, l)
	}
	late := put(t, a, api.Box, 0, x, l)
	if _, e := Bytes(a, put(t, a, api.List, 0, late)); e != api.ErrLen {
		t.Error("the lowest node's error", e)
	}
	if _, e := Bytes(a, put(t, a, api.List, 0, l, odd)); e != api.ErrKind {
		t.Error("the lowest node's error", e)
	}
	for _, kind := range []int{api.Seal, api.Sig, api.Hash} {
		n, _ := a.Node(l)
		args := []int{x}
		for range 8 {
			args = append(args, n.Args[0])
		}
		if _, e := Bytes(a, put(t, a, kind, 0, args...)); e != api.ErrLen {
			t.Error(kind, e)
		}
	}
	big := []int{p, x}
	n, _ := a.Node(l)
	for range 8 {
		big = append(big, n.Args[0])
	}
	if _, e := Bytes(a, put(t, a, api.Box, 0, big...)); e != api.ErrLen {
		t.Error(e)
	}
}

// TestP12_2Once: what stands beneath in many ways is worked out once.
func TestP12_2Once(t *testing.T) {
	a := term.New()
	x := put(t, a, api.Atom, 1)
	for range 200 {
		x = put(t, a, api.Hash, 0, x, x, x)
	}
	if b, e := Bytes(a, x); e != api.OK || len(b) != 32 {
		t.Error(e)
	}
}

func TestP12_3Errors(t *testing.T) {
	key := [32]byte{1}
	sealed, _ := aead.Seal(key, [12]byte{}, nil, []byte{1, 2, 3})
	good, _ := aead.Seal(key, [12]byte{}, nil, join([]byte{7}, nil))
	if l, e := Open(key, good); e != api.OK || len(l) != 2 || !bytes.Equal(l[0], []byte{7}) || len(l[1]) != 0 {
		t.Error(l, e)
	}
	for i, c := range []struct {
		b []byte
		e api.Errno
	}{{nil, api.ErrLen}, {good[1:], api.ErrOpen}, {sealed, api.ErrLen}, {make([]byte, api.MaxBytes+17), api.ErrLen}} {
		if l, e := Open(key, c.b); e != c.e || len(l) != 0 {
			t.Error(i, e)
		}
	}
	for i, c := range []struct {
		b []byte
		e api.Errno
	}{{nil, api.ErrLen}, {make([]byte, 47), api.ErrLen}, {make([]byte, 48), api.ErrZero}, {append([]byte{9}, make([]byte, 60)...), api.ErrOpen},
		{append([]byte{9}, make([]byte, 31+api.MaxBytes+17)...), api.ErrLen}} {
		if l, e := Unbox(key, c.b); e != c.e || len(l) != 0 {
			t.Error(i, e)
		}
	}
	own := ed25519.NewKeyFromSeed(key[:])
	pub := both(key)
	sig := append(ed25519.Sign(own, join([]byte{7})), join([]byte{7})...)
	odd := append(ed25519.Sign(own, []byte{1}), 1)
	for i, c := range []struct {
		pub, sig []byte
		e        api.Errno
	}{{pub, sig, api.OK}, {pub, odd, api.ErrLen}, {pub[1:], sig, api.ErrLen}, {append(bytes.Clone(pub), 0), sig, api.ErrLen}, {pub, sig[:63], api.ErrLen},
		{pub, sig[:64], api.ErrSign}, {append(bytes.Clone(pub[32:]), pub[:32]...), sig, api.ErrSign}} {
		l, e := Signed(c.pub, c.sig)
		if e != c.e || e == api.OK && (len(l) != 1 || l[0][0] != 7) || e != api.OK && len(l) != 0 {
			t.Error(i, e)
		}
	}
}

func TestP12_4Opens(t *testing.T) {
	r := rand.New(rand.NewSource(12))
	a := term.New()
	secrets := []int{put(t, a, api.Atom, 1), put(t, a, api.Atom, 2), put(t, a, api.Word, 3)}
	bytesOf := func(i int) []byte {
		b, e := Bytes(a, i)
		if e != api.OK {
			t.Fatal(e)
		}
		return b
	}
	for range 60 {
		k := secrets[r.Intn(len(secrets))]
		p := put(t, a, api.Pub, 0, k)
		other := secrets[r.Intn(len(secrets))]
		var args []int
		for range r.Intn(4) {
			args = append(args, secrets[r.Intn(len(secrets))])
		}
		seal := put(t, a, api.Seal, 0, append([]int{k}, args...)...)
		box := put(t, a, api.Box, 0, append([]int{p, other}, args...)...)
		sig := put(t, a, api.Sig, 0, append([]int{k}, args...)...)
		want := [][]byte{}
		for _, x := range args {
			want = append(want, bytesOf(x))
		}
		key := Key(bytesOf(k))
		opened, e := Open(key, bytesOf(seal))
		unboxed, f := Unbox(key, bytesOf(box))
		signed, g := Signed(bytesOf(p), bytesOf(sig))
		for i, got := range [][][]byte{opened, unboxed, signed} {
			if !slices.EqualFunc(got, want, bytes.Equal) || e != api.OK || f != api.OK || g != api.OK {
				t.Fatal(i, e, f, g)
			}
		}
		wrong := Key([]byte("wrong"))
		if _, e := Open(wrong, bytesOf(seal)); e != api.ErrOpen {
			t.Error(e)
		}
		if _, e := Unbox(wrong, bytesOf(box)); e != api.ErrOpen {
			t.Error(e)
		}
		secrets = append(secrets, put(t, a, api.Kdf, r.Intn(9), k))
	}
}
