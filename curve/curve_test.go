package curve

import (
	"bytes"
	"math/big"
	"math/rand"
	"testing"

	"tryst/api"
)

var (
	prime  = new(big.Int).Sub(new(big.Int).Lsh(big.NewInt(1), 255), big.NewInt(19))
	groupL = func() *big.Int {
		n, _ := new(big.Int).SetString("27742317777372353535851937790883648493", 10)
		return n.Add(n, new(big.Int).Lsh(big.NewInt(1), 252))
	}()
)

// value reads bytes, the lowest first.
func value(a []byte) *big.Int {
	b := bytes.Clone(a)
	for i, j := 0, len(b)-1; i < j; i, j = i+1, j-1 {
		b[i], b[j] = b[j], b[i]
	}
	return new(big.Int).SetBytes(b)
}

// laid is a number's 32 bytes, the lowest first.
func laid(n *big.Int) [32]byte {
	var a [32]byte
	n.FillBytes(a[:])
	for i := range 16 {
		a[i], a[31-i] = a[31-i], a[i]
	}
	return a
}

// pair is a point by whole numbers.
type pair struct{ x, y *big.Int }

func bigD() *big.Int {
	n := new(big.Int).ModInverse(big.NewInt(121666), prime)
	n.Mul(n, big.NewInt(-121665))
	return n.Mod(n, prime)
}

// slowAdd is the sum by the chapter's words.
func slowAdd(p, q pair) pair {
	mul := func(l ...*big.Int) *big.Int {
		n := big.NewInt(1)
		for _, x := range l {
			n.Mul(n, x).Mod(n, prime)
		}
		return n
	}
	s := mul(bigD(), p.x, q.x, p.y, q.y)
	one := big.NewInt(1)
	over := func(a, b, c *big.Int) *big.Int {
		n := new(big.Int).Add(a, b)
		return mul(n, new(big.Int).ModInverse(new(big.Int).Mod(c, prime), prime))
	}
	return pair{
		over(mul(p.x, q.y), mul(q.x, p.y), new(big.Int).Add(one, s)),
		over(mul(p.y, q.y), mul(p.x, q.x), new(big.Int).Sub(one, s)),
	}
}

// slowRead reads bytes by the chapter's words.
func slowRead(b [32]byte) (pair, bool) {
	odd := b[31]&128 != 0
	b[31] &= 127
	y := value(b[:])
	if y.Cmp(prime) >= 0 {
		return pair{}, false
	}
	yy := new(big.Int).Mul(y, y)
	under := new(big.Int).Mul(bigD(), yy)
	under.Add(under, big.NewInt(1)).Mod(under, prime)
	xx := new(big.Int).Sub(yy, big.NewInt(1))
	xx.Mul(xx, new(big.Int).ModInverse(under, prime)).Mod(xx, prime)
	x := new(big.Int).ModSqrt(xx, prime)
	if x == nil || x.Sign() == 0 && odd {
		return pair{}, false
	}
	if x.Bit(0) == 1 != odd {
		x.Sub(prime, x)
	}
	return pair{x, y}, true
}

func slowLay(p pair) [32]byte {
	b := laid(p.y)
	b[31] |= byte(p.x.Bit(0)) << 7
	return b
}

var nought = [32]byte{1}

// some are points: of small orders, of the base, and others.
func some() [][32]byte {
	r := rand.New(rand.NewSource(8))
	l := [][32]byte{nought, {}, {31: 128}, laid(new(big.Int).Sub(prime, big.NewInt(1))), Base([32]byte{1})}
	for len(l) < 14 {
		var p [32]byte
		r.Read(p[:])
		if Check(p) == api.OK {
			l = append(l, p)
		}
	}
	return l
}

func TestP8_1Check(t *testing.T) {
	r := rand.New(rand.NewSource(9))
	var l [][32]byte
	for n := int64(0); n < 40; n++ {
		low := laid(big.NewInt(n))
		over := laid(new(big.Int).Add(new(big.Int).Sub(prime, big.NewInt(20)), big.NewInt(n)))
		for _, b := range [][32]byte{low, over} {
			l = append(l, b)
			b[31] |= 128
			l = append(l, b)
		}
		var any [32]byte
		r.Read(any[:])
		l = append(l, any)
	}
	right := 0
	for _, b := range l {
		_, ok := slowRead(b)
		if ok != (Check(b) == api.OK) || !ok && Check(b) != api.ErrPoint {
			t.Errorf("%x", b)
		}
		if ok {
			right++
		}
	}
	if right < 30 || right > len(l)-30 {
		t.Error(right)
	}
	// x is 0, and the bit is set
	if Check([32]byte{0: 1, 31: 128}) != api.ErrPoint || Check(nought) != api.OK {
		t.Error("x is 0")
	}
}

func TestP8_1Add(t *testing.T) {
	l := some()
	for _, p := range l {
		for _, q := range l {
			got, e := Add(p, q)
			a, _ := slowRead(p)
			b, _ := slowRead(q)
			if e != api.OK || got != slowLay(slowAdd(a, b)) {
				t.Fatalf("%x %x", p, q)
			}
		}
	}
	bad := [32]byte{2}
	if Check(bad) != api.ErrPoint {
		t.Fatal("2 is a point")
	}
	for i, f := range []func() ([32]byte, api.Errno){
		func() ([32]byte, api.Errno) { return Add(bad, nought) },
		func() ([32]byte, api.Errno) { return Add(nought, bad) },
		func() ([32]byte, api.Errno) { return Times([32]byte{}, bad) },
	} {
		if got, e := f(); e != api.ErrPoint || got != ([32]byte{}) {
			t.Error(i, e)
		}
	}
}

func TestP8_1Times(t *testing.T) {
	if Base([32]byte{}) != nought {
		t.Error("0 times B")
	}
	want := [32]byte(bytes.Repeat([]byte{0x66}, 32))
	want[0] = 0x58
	if Base([32]byte{1}) != want {
		t.Error("B")
	}
	for _, p := range some() {
		sum := nought
		for n := range byte(12) {
			got, e := Times([32]byte{n}, p)
			if e != api.OK || got != sum {
				t.Fatal(n)
			}
			sum, _ = Add(sum, p)
		}
		most := [32]byte(bytes.Repeat([]byte{255}, 32))
		all, _ := Times(most, p)
		half, _ := Times(laid(new(big.Int).Lsh(big.NewInt(1), 255)), p)
		double, _ := Add(half, half)
		next, _ := Add(all, p)
		if next != double {
			t.Error("2^256 - 1 times")
		}
	}
}

func TestP8_2Mod(t *testing.T) {
	r := rand.New(rand.NewSource(10))
	for n := range 65 {
		b := make([]byte, n)
		r.Read(b)
		if n%7 == 0 {
			b = bytes.Repeat([]byte{255}, n)
		}
		got, e := Mod(append(bytes.Clone(b), 77)[:n])
		if e != api.OK || got != laid(new(big.Int).Mod(value(b), groupL)) {
			t.Error(n, e)
		}
	}
	if got, e := Mod(make([]byte, 65)); e != api.ErrLen || got != ([32]byte{}) {
		t.Error(e)
	}
}

func TestP8_2MulAddBelow(t *testing.T) {
	r := rand.New(rand.NewSource(11))
	l := [][32]byte{{}, {1}, [32]byte(bytes.Repeat([]byte{255}, 32))}
	for d := int64(-2); d < 3; d++ {
		l = append(l, laid(new(big.Int).Add(groupL, big.NewInt(d))))
	}
	for range 10 {
		var a [32]byte
		r.Read(a[:])
		l = append(l, a)
		a[31] &= 15
		l = append(l, a)
	}
	for i, a := range l {
		if Below(a) != (value(a[:]).Cmp(groupL) < 0) {
			t.Errorf("Below %x", a)
		}
		for j, b := range l {
			c := l[(i+j)%len(l)]
			n := new(big.Int).Mul(value(a[:]), value(b[:]))
			n.Add(n, value(c[:])).Mod(n, groupL)
			if MulAdd(a, b, c) != laid(n) {
				t.Fatalf("%x %x %x", a, b, c)
			}
		}
	}
}

func TestP8_3Group(t *testing.T) {
	if Base(laid(groupL)) != nought {
		t.Error("L times B")
	}
	l := some()
	r := rand.New(rand.NewSource(12))
	for i, p := range l {
		q, s := l[(i+3)%len(l)], l[(i+5)%len(l)]
		pq, _ := Add(p, q)
		qp, _ := Add(q, p)
		qs, _ := Add(q, s)
		x, _ := Add(pq, s)
		y, _ := Add(p, qs)
		if pq != qp || x != y || Check(x) != api.OK {
			t.Error("order")
		}
		n, m := laid(new(big.Int).Rand(r, groupL)), laid(new(big.Int).Rand(r, groupL))
		a, _ := Times(n, p)
		b, _ := Times(m, p)
		ab, _ := Add(a, b)
		both, _ := Times(laid(new(big.Int).Add(value(n[:]), value(m[:]))), p)
		if ab != both {
			t.Error("n and m times")
		}
	}
}
