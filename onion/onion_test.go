package onion

import (
	"math/rand"
	"slices"
	"testing"

	"tryst/api"
	"tryst/know"
	"tryst/term"
)

// bench is an arena with servers' secrets (the nodes 0 to 2), their Pubs, and more.
type bench struct {
	t    *testing.T
	a    *term.Arena
	pubs []int
}

func newBench(t *testing.T) *bench {
	b := &bench{t: t, a: term.New()}
	for i := range 10 {
		b.put(api.Atom, i)
	}
	for s := range api.Servers {
		b.pubs = append(b.pubs, b.put(api.Pub, 0, s))
	}
	return b
}

func (b *bench) put(kind, n int, args ...int) int {
	b.t.Helper()
	i, e := b.a.Make(kind, n, args...)
	if e != api.OK {
		b.t.Fatal(kind, n, args, e)
	}
	return i
}

func TestP23_1Wrap(t *testing.T) {
	b := newBench(t)
	kdf := func(n int) int { return b.put(api.Kdf, n, 5) }
	before := slices.Clone(b.pubs)
	o, keys, e := Wrap(b.a, b.pubs, 5, 6)
	inside := b.put(api.Box, 0, b.pubs[2], kdf(62), 6, kdf(52))
	inside = b.put(api.Box, 0, b.pubs[1], kdf(61), inside, kdf(51))
	inside = b.put(api.Box, 0, b.pubs[0], kdf(60), inside, kdf(50))
	if e != api.OK || o != inside || !slices.Equal(keys, []int{kdf(50), kdf(51), kdf(52)}) || !slices.Equal(before, b.pubs) {
		t.Error(o, keys, e)
	}
	for i, c := range []struct {
		pubs            []int
		secret, payload int
		e               api.Errno
	}{
		{nil, -1, -1, api.ErrLen}, {b.pubs[:2], 5, 6, api.ErrLen}, {append(slices.Clone(b.pubs), b.pubs[0]), 5, 6, api.ErrLen}, {[]int{b.pubs[0], 1, 1 << 40}, 5, 6, api.ErrNone}, {b.pubs, -1, 6, api.ErrNone}, {b.pubs, 5, 1 << 40, api.ErrNone},
		{[]int{b.pubs[0], b.pubs[1], 2}, 5, 6, api.ErrKind}, {[]int{0, b.pubs[1], b.pubs[2]}, 5, 6, api.ErrKind},
	} {
		o, keys, e := Wrap(b.a, c.pubs, c.secret, c.payload)
		if e != c.e || o != 0 || len(keys) != 0 {
			t.Error(i, e)
		}
	}
}

func TestP23_2Wrong(t *testing.T) {
	b := newBench(t)
	o, _, _ := Wrap(b.a, b.pubs, 5, 6)
	one := b.put(api.Box, 0, b.pubs[0], 5, 6)
	three := b.put(api.Box, 0, b.pubs[0], 5, 6, 6, 6)
	for i, c := range []struct {
		secret, onion int
		e             api.Errno
	}{{0, o, api.OK}, {1, o, api.ErrOpen}, {2, o, api.ErrOpen}, {-1, o, api.ErrNone}, {0, 1 << 40, api.ErrNone}, {0, 6, api.ErrKind}, {0, one, api.ErrKind}, {0, three, api.ErrKind}} {
		in, key, e := Peel(b.a, c.secret, c.onion)
		if e != c.e || e != api.OK && in+key != 0 {
			t.Error(i, e)
		}
	}
	if s, e := Back(b.a, 4, 5); e != api.OK || s != b.put(api.Seal, 0, 4, 5) {
		t.Error(e)
	}
	for _, c := range [][2]int{{-1, 5}, {5, -1}, {1 << 40, 5}, {5, 1 << 40}} {
		if s, e := Back(b.a, c[0], c[1]); e != api.ErrNone || s != 0 {
			t.Error(e)
		}
	}
	seal := func(key, x int) int { return b.put(api.Seal, 0, key, x) }
	good := seal(3, seal(4, seal(5, 6)))
	two := b.put(api.Seal, 0, 5, 6, 6)
	bare := b.put(api.Seal, 0, 5)
	for i, c := range []struct {
		keys   []int
		answer int
		e      api.Errno
	}{
		{[]int{3, 4, 5}, good, api.OK}, {[]int{3, 4}, good, api.ErrLen}, {nil, -1, api.ErrLen}, {[]int{3, 4, 5, 6}, good, api.ErrLen}, {[]int{3, 4, -1}, good, api.ErrNone}, {[]int{3, 4, 5}, 1 << 40, api.ErrNone}, {[]int{3, 4, 1 << 40}, 6, api.ErrNone},
		{[]int{5, 4, 3}, good, api.ErrOpen}, {[]int{3, 4, 4}, good, api.ErrOpen}, {[]int{3, 4, 5}, 6, api.ErrKind}, {[]int{3, 4, 5}, seal(3, seal(4, 6)), api.ErrKind}, {[]int{3, 4, 5}, seal(3, seal(4, two)), api.ErrKind}, {[]int{3, 4, 5}, seal(3, seal(4, bare)), api.ErrKind},
		{[]int{3, 4, 5}, b.put(api.Seal, 0, 3, seal(4, 5), 5), api.ErrKind},
	} {
		x, e := Read(b.a, c.keys, c.answer)
		if e != c.e || e == api.OK && x != 6 || e != api.OK && x != 0 {
			t.Error(i, x, e)
		}
	}
}

func TestP23_3Through(t *testing.T) {
	r := rand.New(rand.NewSource(23))
	b := newBench(t)
	for range 100 {
		secret, payload, answer := b.put(api.Atom, 100+r.Intn(1000)), r.Intn(10), r.Intn(10)
		o, keys, e := Wrap(b.a, b.pubs, secret, payload)
		if e != api.OK {
			t.Fatal(e)
		}
		var back []int
		x := o
		for s := range api.Servers {
			inner, key, e := Peel(b.a, s, x)
			if e != api.OK || key != keys[s] {
				t.Fatal(e)
			}
			x, back = inner, append(back, key)
		}
		if x != payload {
			t.Error("another payload")
		}
		for s := api.Servers - 1; s >= 0; s-- {
			answer, _ = Back(b.a, back[s], answer)
		}
		want := answer
		for range api.Servers {
			n, _ := b.a.Node(want)
			want = n.Args[1]
		}
		if got, e := Read(b.a, keys, answer); e != api.OK || got != want {
			t.Error(got, e)
		}
	}
}

// TestP23_3NotKnown: of the onion, and all servers' secrets but one, the payload is not known.
func TestP23_3NotKnown(t *testing.T) {
	b := newBench(t)
	o, _, _ := Wrap(b.a, b.pubs, 5, 6)
	for _, c := range []struct {
		some []int
		want bool
	}{{[]int{o}, false}, {[]int{o, 0, 1}, false}, {[]int{o, 1, 2}, false}, {[]int{o, 0, 2}, false}, {[]int{o, 0, 1, 2}, true}} {
		if is, e := know.Is(b.a, c.some, 6); e != api.OK || is != c.want {
			t.Error(c, is, e)
		}
	}
}
