package term

import (
	"slices"
	"testing"

	"tryst/api"
)

// make1 makes a node that must be made.
func make1(t *testing.T, a *Arena, kind, n int, args ...int) int {
	t.Helper()
	i, e := a.Make(kind, n, args...)
	if e != api.OK {
		t.Fatal(kind, n, args, e)
	}
	return i
}

func TestP10_1Example(t *testing.T) {
	a := New()
	if a.Len() != 0 {
		t.Error("not empty")
	}
	atom := make1(t, a, api.Atom, 5)
	pub := make1(t, a, api.Pub, 0, 0)
	box := make1(t, a, api.Box, 0, 0+1, 0, 0)
	if atom != 0 || pub != 1 || box != 2 || a.Len() != 3 {
		t.Error(atom, pub, box)
	}
	in, e := a.Unbox(2, 0)
	if e != api.OK || !slices.Equal(in, []int{0}) {
		t.Error(in, e)
	}
	n, e := a.Node(2)
	if e != api.OK || n.Kind != api.Box || n.N != 0 || !slices.Equal(n.Args, []int{1, 0, 0}) {
		t.Error(n, e)
	}
	for _, i := range []int{-1, 3, 1 << 62} {
		if n, e := a.Node(i); e != api.ErrNone || n.Kind != 0 || n.N != 0 || len(n.Args) != 0 {
			t.Error(i, e)
		}
	}
}

func TestP10_1MakeErrors(t *testing.T) {
	a := New()
	make1(t, a, api.Atom, 1)
	most := make([]int, api.MaxArgs)
	over := make([]int, api.MaxArgs+1)
	for _, c := range []struct {
		kind, n int
		args    []int
		e       api.Errno
	}{
		{0, 0, nil, api.ErrKind}, {api.List + 1, 0, nil, api.ErrKind}, {-1, -1, []int{9}, api.ErrKind},
		{api.Atom, -1, nil, api.ErrArg}, {api.Word, -1, []int{0}, api.ErrArg}, {api.Kdf, -1, []int{0}, api.ErrArg},
		{api.Hash, 1, nil, api.ErrArg}, {api.List, 1, nil, api.ErrArg}, {api.Pub, 1, []int{0}, api.ErrArg}, {api.Pub, -1, []int{0}, api.ErrArg},
		{api.Seal, 1, []int{0}, api.ErrArg}, {api.Sig, 2, nil, api.ErrArg}, {api.Box, 1, []int{9, 9}, api.ErrArg},
		{api.Atom, 0, []int{0}, api.ErrLen}, {api.Word, 0, []int{9}, api.ErrLen},
		{api.Kdf, 0, nil, api.ErrLen}, {api.Kdf, 0, []int{0, 9}, api.ErrLen}, {api.Pub, 0, nil, api.ErrLen}, {api.Pub, 0, []int{0, 0}, api.ErrLen},
		{api.Seal, 0, nil, api.ErrLen}, {api.Sig, 0, nil, api.ErrLen}, {api.Box, 0, []int{0}, api.ErrLen},
		{api.Hash, 0, over, api.ErrLen}, {api.List, 0, over, api.ErrLen}, {api.Seal, 0, over, api.ErrLen}, {api.Box, 0, over, api.ErrLen}, {api.Sig, 0, over, api.ErrLen},
		{api.Hash, 0, []int{1}, api.ErrNone}, {api.Hash, 0, []int{0, -1}, api.ErrNone}, {api.Pub, 0, []int{1 << 40}, api.ErrNone}, {api.Hash, 0, []int{1 << 24}, api.ErrNone},
	} {
		if i, e := a.Make(c.kind, c.n, c.args...); e != c.e || i != 0 || a.Len() != 1 {
			t.Error(c.kind, c.n, len(c.args), i, e)
		}
	}
	for _, kind := range []int{api.Hash, api.List, api.Seal, api.Box, api.Sig} {
		make1(t, a, kind, 0, most...)
	}
	make1(t, a, api.Hash, 0)
	make1(t, a, api.List, 0)
	make1(t, a, api.Word, 1<<62)
}

func TestP10_1Full(t *testing.T) {
	a := New()
	for i := range api.MaxTerms {
		if j, e := a.Make(api.Word, i); j != i || e != api.OK {
			t.Fatal(i, j, e)
		}
	}
	if i, e := a.Make(api.Word, api.MaxTerms); e != api.ErrFull || i != 0 {
		t.Error(e)
	}
	if i, e := a.Make(api.Word, 77); e != api.OK || i != 77 {
		t.Error("what is there", i, e)
	}
	if _, e := a.Make(api.Hash, 0, api.MaxTerms); e != api.ErrNone {
		t.Error(e)
	}
}

func TestP10_2Opening(t *testing.T) {
	a := New()
	k := make1(t, a, api.Atom, 1)
	other := make1(t, a, api.Atom, 2)
	w := make1(t, a, api.Word, 3)
	pub := make1(t, a, api.Pub, 0, k)
	seal := make1(t, a, api.Seal, 0, k, w, other)
	bare := make1(t, a, api.Seal, 0, k)
	box := make1(t, a, api.Box, 0, pub, other, w, k)
	odd := make1(t, a, api.Box, 0, k, other, w)
	sig := make1(t, a, api.Sig, 0, k, w, w)
	for i, c := range []struct {
		f    func(int, int) ([]int, api.Errno)
		x, y int
		want []int
		e    api.Errno
	}{
		{a.Open, seal, k, []int{w, other}, api.OK}, {a.Open, bare, k, nil, api.OK},
		{a.Open, seal, other, nil, api.ErrOpen}, {a.Open, seal, pub, nil, api.ErrOpen}, {a.Open, box, k, nil, api.ErrKind}, {a.Open, sig, k, nil, api.ErrKind},
		{a.Open, 99, k, nil, api.ErrNone}, {a.Open, w, -1, nil, api.ErrNone}, {a.Open, -1, 99, nil, api.ErrNone},
		{a.Unbox, box, k, []int{w, k}, api.OK}, {a.Unbox, box, other, nil, api.ErrOpen}, {a.Unbox, box, pub, nil, api.ErrOpen},
		{a.Unbox, odd, k, nil, api.ErrOpen}, {a.Unbox, seal, k, nil, api.ErrKind}, {a.Unbox, 99, k, nil, api.ErrNone}, {a.Unbox, seal, 99, nil, api.ErrNone},
		{a.Signed, sig, pub, []int{w, w}, api.OK}, {a.Signed, sig, make1(t, a, api.Pub, 0, other), nil, api.ErrSign},
		{a.Signed, sig, k, nil, api.ErrKind}, {a.Signed, seal, pub, nil, api.ErrKind}, {a.Signed, sig, 99, nil, api.ErrNone}, {a.Signed, 99, pub, nil, api.ErrNone},
	} {
		got, e := c.f(c.x, c.y)
		if e != c.e || !slices.Equal(got, c.want) {
			t.Error(i, got, e)
		}
	}
}

func TestP10_2Beneath(t *testing.T) {
	a := New()
	k := make1(t, a, api.Atom, 1)
	w := make1(t, a, api.Word, 3)
	idle := make1(t, a, api.Word, 4)
	pub := make1(t, a, api.Pub, 0, k)
	l := make1(t, a, api.List, 0, pub, w, pub)
	top := make1(t, a, api.Hash, 0, l, w)
	for i, want := range map[int][]int{k: {k}, idle: {idle}, pub: {k, pub}, l: {k, w, pub, l}, top: {k, w, pub, l, top}} {
		got, e := a.Beneath(i)
		if e != api.OK || !slices.Equal(got, want) {
			t.Error(i, got, e)
		}
	}
	if l, e := a.Beneath(99); e != api.ErrNone || len(l) != 0 {
		t.Error(e)
	}
	if _, e := a.Beneath(-1); e != api.ErrNone {
		t.Error(e)
	}
}

func TestP10_3Once(t *testing.T) {
	a := New()
	k := make1(t, a, api.Atom, 1)
	w := make1(t, a, api.Word, 1)
	l := [][]int{{}, {k}, {w}, {k, w}, {w, k}, {k, k}, {k, k, k}}
	seen := map[int]int{k: 0, w: 0}
	for kind := api.Hash; kind <= api.List; kind++ {
		for _, args := range l {
			for n := range 2 {
				i, e := a.Make(kind, n, args...)
				if e != api.OK {
					continue
				}
				seen[i]++
				for _, x := range args {
					if x >= i {
						t.Error("arguments stand behind")
					}
				}
				if j := make1(t, a, kind, n, args...); j != i {
					t.Error("twice")
				}
			}
		}
	}
	if len(seen) != a.Len() {
		t.Error(len(seen), a.Len())
	}
	for i := range a.Len() {
		n, _ := a.Node(i)
		if j := make1(t, a, n.Kind, n.N, n.Args...); j != i {
			t.Error(i, j)
		}
	}
}

func TestP10_3NothingShared(t *testing.T) {
	a := New()
	k := make1(t, a, api.Atom, 1)
	w := make1(t, a, api.Word, 1)
	args := []int{k, w, w, 7}[:3]
	s := make1(t, a, api.Seal, 0, args...)
	args[1] = k
	first, _ := a.Node(s)
	first.Args[0] = 99
	_ = append(first.Args, 5)
	opened, _ := a.Open(s, k)
	opened[0] = 99
	again, _ := a.Node(s)
	if !slices.Equal(again.Args, []int{k, w, w}) {
		t.Error(again)
	}
	p := make1(t, a, api.Pub, 0, k)
	box, sig := make1(t, a, api.Box, 0, p, k, w), make1(t, a, api.Sig, 0, k, w)
	unboxed, _ := a.Unbox(box, k)
	signed, _ := a.Signed(sig, p)
	unboxed[0], signed[0] = 99, 99
	b1, _ := a.Unbox(box, k)
	s1, _ := a.Signed(sig, p)
	if b1[0] != w || s1[0] != w {
		t.Error("memory is shared")
	}
	if args[:4][3] != 7 {
		t.Error("the spare room was changed")
	}
	b := New()
	if b.Len() != 0 {
		t.Error("arenas have something in common")
	}
}
