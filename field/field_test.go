package field

import (
	"bytes"
	"math/big"
	"math/rand"
	"testing"
)

var prime = new(big.Int).Sub(new(big.Int).Lsh(big.NewInt(1), 255), big.NewInt(19))

// value reads bytes, the lowest first.
func value(a [32]byte) *big.Int {
	for i := range 16 {
		a[i], a[31-i] = a[31-i], a[i]
	}
	return new(big.Int).SetBytes(a[:])
}

// laid is a number's bytes, modulo 2^256.
func laid(n *big.Int) [32]byte {
	m := new(big.Int).Mod(n, new(big.Int).Lsh(big.NewInt(1), 256))
	var a [32]byte
	m.FillBytes(a[:])
	for i := range 16 {
		a[i], a[31-i] = a[31-i], a[i]
	}
	return a
}

// some are numbers at the edges, and others.
func some() [][32]byte {
	var l [][32]byte
	for d := int64(-3); d <= 3; d++ {
		for _, n := range []*big.Int{new(big.Int), prime, new(big.Int).Mul(prime, big.NewInt(2)), new(big.Int).Lsh(big.NewInt(1), 255), new(big.Int).Lsh(big.NewInt(1), 64), new(big.Int).Lsh(big.NewInt(1), 192)} {
			l = append(l, laid(new(big.Int).Add(n, big.NewInt(d))))
		}
	}
	r := rand.New(rand.NewSource(6))
	for range 40 {
		var a [32]byte
		r.Read(a[:])
		l = append(l, a)
	}
	return append(l, [32]byte(bytes.Repeat([]byte{255}, 32)))
}

func TestP6_1AddSubMul(t *testing.T) {
	l := some()
	for _, a := range l {
		if Mod(a) != laid(new(big.Int).Mod(value(a), prime)) {
			t.Errorf("Mod %x", a)
		}
		for _, b := range l {
			x, y := value(a), value(b)
			sum := new(big.Int).Add(x, y)
			difference := new(big.Int).Sub(x, y)
			product := new(big.Int).Mul(x, y)
			if Add(a, b) != laid(sum.Mod(sum, prime)) || Sub(a, b) != laid(difference.Mod(difference, prime)) || Mul(a, b) != laid(product.Mod(product, prime)) {
				t.Fatalf("%x %x", a, b)
			}
		}
	}
}

func TestP6_1Pow(t *testing.T) {
	l := some()
	for i, a := range l {
		for _, e := range [][32]byte{{}, {1}, {2}, l[(i+7)%len(l)], l[len(l)-1]} {
			if Pow(a, e) != laid(new(big.Int).Exp(value(a), value(e), prime)) {
				t.Fatalf("%x %x", a, e)
			}
		}
	}
	if Pow([32]byte{}, [32]byte{}) != [32]byte([32]byte{1}) {
		t.Error("0 to the power 0")
	}
}

func TestP6_1Inv(t *testing.T) {
	for _, a := range some() {
		got := Inv(a)
		if Mod(a) == ([32]byte{}) {
			if got != ([32]byte{}) {
				t.Error("of 0")
			}
		} else if Mul(a, got) != ([32]byte{1}) || Mod(got) != got {
			t.Errorf("%x", a)
		}
	}
}

func TestP6_1Root(t *testing.T) {
	found := 0
	for _, a := range some() {
		r, ok := Root(a)
		want := new(big.Int).ModSqrt(value(Mod(a)), prime)
		if ok != (want != nil) {
			t.Fatalf("%x", a)
		}
		if !ok {
			if r != ([32]byte{}) {
				t.Error("beside a false")
			}
			continue
		}
		found++
		if r[0]&1 != 0 || Mul(r, r) != Mod(a) || Mod(r) != r {
			t.Fatalf("%x: %x", a, r)
		}
	}
	if found < 10 {
		t.Error(found)
	}
	if r, ok := Root([32]byte{4}); !ok || r != ([32]byte{2}) {
		t.Error("of 4")
	}
	if _, ok := Root([32]byte{2}); ok {
		t.Error("of 2")
	}
	if r, ok := Root(laid(prime)); !ok || r != ([32]byte{}) {
		t.Error("of 0")
	}
}

func TestP6_2Field(t *testing.T) {
	l := some()
	for i, a := range l {
		b, c := l[(i+5)%len(l)], l[(i+11)%len(l)]
		if Add(a, b) != Add(b, a) || Mul(a, b) != Mul(b, a) {
			t.Error("order")
		}
		if Add(Add(a, b), c) != Add(a, Add(b, c)) || Mul(Mul(a, b), c) != Mul(a, Mul(b, c)) {
			t.Error("brackets")
		}
		if Mul(a, Add(b, c)) != Add(Mul(a, b), Mul(a, c)) {
			t.Error("parts")
		}
		if Add(Sub(a, b), b) != Mod(a) {
			t.Error("difference")
		}
	}
}
