package nodes

import (
	"slices"
	"testing"

	"tryst/api"
)

var wild = []int{-1 << 63, -16, -2, -1, 15, 16, 17, 18, 100, 1 << 40, 1<<63 - 1}

func TestP15_1MayLevelRoot(t *testing.T) {
	for n := -3; n < 40; n++ {
		want := n == 1 || n == 2 || n == 4 || n == 8
		root := 0
		if want {
			root = n - 1
		}
		if May(n) != want || Root(n) != root {
			t.Error(n)
		}
	}
	for x, want := range map[int]int{0: 0, 1: 1, 2: 0, 3: 2, 5: 1, 7: 3, 11: 2, 15: 4, 16: 0, -1: 0, -5: 0, 1<<63 - 1: 63, -1 << 63: 0} {
		if Level(x) != want {
			t.Error(x, Level(x))
		}
	}
	for _, n := range wild {
		if May(n) || Root(n) != 0 {
			t.Error(n)
		}
	}
}

func TestP15_1Children(t *testing.T) {
	left := map[int]int{1: 0, 3: 1, 5: 4, 7: 3, 9: 8, 11: 9, 13: 12}
	right := map[int]int{1: 2, 3: 5, 5: 6, 7: 11, 9: 10, 11: 13, 13: 14}
	for x := -3; x < 20; x++ {
		l, e := Left(x)
		r, f := Right(x)
		want, ok := left[x]
		if ok != (e == api.OK) || ok != (f == api.OK) || l != want || r != right[x] || !ok && (e != api.ErrArg || f != api.ErrArg) {
			t.Error(x, l, r, e, f)
		}
	}
	for _, x := range wild {
		if l, e := Left(x); e != api.ErrArg || l != 0 {
			t.Error(x)
		}
		if r, e := Right(x); e != api.ErrArg || r != 0 {
			t.Error(x)
		}
	}
}

func TestP15_1Parents(t *testing.T) {
	for _, n := range append([]int{0, 1, 2, 3, 4, 5, 6, 7, 8, 9}, wild...) {
		for _, x := range append([]int{0, 1, 2, 3, 4, 5, 6, 7, 8, 9, 10, 11, 12, 13, 14}, wild...) {
			p, e := Parent(x, n)
			s, f := Sibling(x, n)
			if !May(n) || x < 0 || x > 2*n-2 || x == n-1 {
				if e != api.ErrArg || p != 0 || f != api.ErrArg || s != 0 {
					t.Error(x, n, p, e)
				}
				continue
			}
			l, _ := Left(p)
			r, _ := Right(p)
			if e != api.OK || f != api.OK || !(l == x && r == s || l == s && r == x) || p > 2*n-2 {
				t.Error(x, n, p, s, e, f)
			}
		}
	}
	if s, _ := Sibling(2, 4); s != 0 {
		t.Error(s)
	}
}

func TestP15_2Path(t *testing.T) {
	for _, c := range []struct {
		i, n int
		want []int
	}{{0, 1, nil}, {0, 2, []int{1}}, {1, 2, []int{1}}, {0, 4, []int{1, 3}}, {3, 4, []int{5, 3}}, {0, 8, []int{1, 3, 7}}, {5, 8, []int{9, 11, 7}}} {
		got, e := Path(c.i, c.n)
		if e != api.OK || !slices.Equal(got, c.want) {
			t.Error(c, got, e)
		}
	}
	for _, c := range [][2]int{{-1, 4}, {4, 4}, {1, 1}, {0, 0}, {0, 3}, {0, 16}, {1 << 62, 8}, {0, -8}} {
		if got, e := Path(c[0], c[1]); e != api.ErrArg || len(got) != 0 {
			t.Error(c, e)
		}
	}
}

func TestP15_2Has(t *testing.T) {
	for x := -2; x < 20; x++ {
		for i := -2; i < 20; i++ {
			want := false
			if x >= 0 && i >= 0 && x <= 16 && i <= 16 {
				k := 0
				for y := x; y%2 == 1; y /= 2 {
					k++
				}
				want = 2*i >= x-(1<<k)+1 && 2*i <= x+(1<<k)-1
			}
			if Has(x, i) != want {
				t.Error(x, i)
			}
		}
	}
	if !Has(15, 16-1) || Has(17, 8) || Has(16, 17) || !Has(16, 8) || Has(7, 1<<62) || Has(1<<62, 0) || Has(0, 1<<62) {
		t.Error("bounds")
	}
	if !Has(7, 0) || !Has(7, 7) || Has(3, 4) || !Has(4, 2) || Has(4, 3) {
		t.Error("Has")
	}
}

func TestP15_3(t *testing.T) {
	for _, n := range []int{1, 2, 4, 8} {
		for x := range 2*n - 1 {
			if x == Root(n) {
				continue
			}
			p, e := Parent(x, n)
			l, _ := Left(p)
			r, _ := Right(p)
			if e != api.OK || x != l && x != r {
				t.Error("no child of its parent", x, n)
			}
		}
		for x := 1; x < 2*n-1; x += 2 {
			l, _ := Left(x)
			r, _ := Right(x)
			for i := range n {
				if Has(x, i) != (Has(l, i) || Has(r, i)) || Has(l, i) && Has(r, i) {
					t.Error("leaves", x, i)
				}
			}
		}
		for i := range n {
			path, _ := Path(i, n)
			for x := range 2*n - 1 {
				if Has(x, i) != (x == 2*i || slices.Contains(path, x)) {
					t.Error("path", i, x)
				}
			}
		}
	}
}
