package sched

import (
	"testing"

	"tryst/api"
	"tryst/know"
	"tryst/term"
)

// newArena has some Atoms.
func newArena() *term.Arena {
	a := term.New()
	for i := range 10 {
		a.Make(api.Atom, i)
	}
	return a
}

func TestP18_1Terms(t *testing.T) {
	a := newArena()
	put := func(kind, n int, args ...int) int {
		i, e := a.Make(kind, n, args...)
		if e != api.OK {
			t.Fatal(e)
		}
		return i
	}
	w := func(n int) int { return put(api.Word, n) }
	got := func(i int, e api.Errno) int {
		if e != api.OK {
			t.Error(e)
		}
		return i
	}
	for i, c := range [][2]int{
		{got(Joiner(a, 1, 2)), put(api.Hash, 0, 1, 2)},
		{got(Secret(a, 1, 2, 3)), put(api.Hash, 0, 1, 2, 3)},
		{got(Start(a, 1)), put(api.Kdf, 21, 1)},
		{got(Tag(a, 1, 2)), put(api.Hash, 0, put(api.Kdf, 22, 1), 2)},
		{got(Chain(a, 1, 0)), put(api.Hash, 0, put(api.Kdf, 23, 1), w(0))},
		{got(Chain(a, 1, 7)), put(api.Hash, 0, put(api.Kdf, 23, 1), w(7))},
		{got(Meet(a, 1, 3, 1, 5)), put(api.Hash, 0, put(api.Kdf, 24, 1), w(1), w(3), w(5))},
		{got(Meet(a, 1, 1, 3, 5)), got(Meet(a, 1, 3, 1, 5))},
		{got(Meet(a, 1, 0, 7, 1<<40)), put(api.Hash, 0, put(api.Kdf, 24, 1), w(0), w(7), w(1<<40))},
		{got(Meet(a, 1, 2, 2, 0)), put(api.Hash, 0, put(api.Kdf, 24, 1), w(2), w(2), w(0))},
		{got(Register(a, 1)), put(api.Kdf, 25, 1)},
		{got(History(a, 1, 2)), put(api.Hash, 0, 1, 2)},
		{got(First(a, 1)), put(api.Hash, 0, 1)},
	} {
		if c[0] != c[1] {
			t.Error(i)
		}
	}
}

// calls are all calls with one term that is not there.
func calls(a *term.Arena, bad int) []api.Errno {
	var out []api.Errno
	put := func(i int, e api.Errno) {
		if i != 0 {
			e = -1
		}
		out = append(out, e)
	}
	put(Joiner(a, bad, 1))
	put(Joiner(a, 1, bad))
	put(Secret(a, bad, 1, 2))
	put(Secret(a, 1, bad, 2))
	put(Secret(a, 1, 2, bad))
	put(Start(a, bad))
	put(Tag(a, bad, 1))
	put(Tag(a, 1, bad))
	put(Chain(a, bad, 3))
	put(Meet(a, bad, 1, 2, 3))
	put(Register(a, bad))
	put(History(a, bad, 1))
	put(History(a, 1, bad))
	put(First(a, bad))
	return out
}

func TestP18_1Errors(t *testing.T) {
	a := newArena()
	for _, bad := range []int{-1, 10, 1 << 50} {
		for i, e := range calls(a, bad) {
			if e != api.ErrNone {
				t.Error(i, e)
			}
		}
	}
	for _, s := range []int{0, -1} {
		for _, l := range []int{-1, 8, 1 << 40} {
			_, e := Chain(a, s, l)
			_, f := Meet(a, s, l, 0, 0)
			_, g := Meet(a, s, 0, l, 0)
			if e != api.ErrArg || f != api.ErrArg || g != api.ErrArg {
				t.Error(l, e, f, g)
			}
		}
		if i, e := Meet(a, s, 0, 1, -1); e != api.ErrArg || i != 0 {
			t.Error(e)
		}
	}
	full := newArena()
	for i := 0; full.Len() < api.MaxTerms; i++ {
		full.Make(api.Atom, i)
	}
	put := func(i int, e api.Errno) {
		if e != api.ErrFull || i != 0 {
			t.Error(e)
		}
	}
	put(Joiner(full, 1, 2))
	put(Tag(full, 1, 2))
	put(Chain(full, 1, 2))
	put(Meet(full, 1, 2, 3, 4))
	put(First(full, 1))
	for i, e := range calls(full, api.MaxTerms) {
		if e != api.ErrNone {
			t.Error(i, e)
		}
	}
}

func TestP18_2Unlike(t *testing.T) {
	a := newArena()
	seen := map[int]int{}
	put := func(i int, e api.Errno) {
		if e != api.OK {
			t.Fatal(e)
		}
		seen[i]++
	}
	keys := 0
	for s := range 3 {
		put(Start(a, s))
		put(Register(a, s))
		keys += 2
		for x := range 3 {
			put(Joiner(a, s, x))
			put(Tag(a, s, x))
			keys += 2
		}
		for i := range 8 {
			put(Chain(a, s, i))
			keys++
			for j := range i {
				for round := range 3 {
					put(Meet(a, s, i, j, round))
					keys++
				}
			}
		}
		for x := range 9 {
			put(Secret(a, s, x/3, x%3))
			keys++
		}
	}
	if len(seen) != keys {
		t.Error(len(seen), keys)
	}
}

func TestP18_2NotKnown(t *testing.T) {
	a := newArena()
	s, _ := Secret(a, 0, 1, 2)
	keys := []int{s}
	put := func(i int, _ api.Errno) { keys = append(keys, i) }
	put(Start(a, s))
	put(Tag(a, s, 2))
	put(Chain(a, s, 0))
	put(Chain(a, s, 1))
	put(Meet(a, s, 0, 1, 3))
	put(Register(a, s))
	for _, k := range keys[1:] {
		known, _ := know.All(a, []int{k, 1, 2})
		for _, l := range keys {
			if known[l] != (l == k) {
				t.Error(k, l)
			}
		}
	}
}
