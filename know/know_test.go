package know

import (
	"math/rand"
	"slices"
	"testing"

	"tryst/api"
	"tryst/term"
)

// slow is the least set by the chapter's words, over and over.
func slow(a *term.Arena, some []int) []bool {
	known := make([]bool, a.Len())
	for _, i := range some {
		known[i] = true
	}
	nodes := make([]api.Term, a.Len())
	for i := range nodes {
		nodes[i], _ = a.Node(i)
	}
	for changed := true; changed; {
		changed = false
		put := func(i int) {
			if !known[i] {
				known[i], changed = true, true
			}
		}
		for i, t := range nodes {
			if t.Kind == api.Word {
				put(i)
			}
			made := t.Kind >= api.Hash
			for _, x := range t.Args {
				made = made && known[x]
			}
			if made {
				put(i)
			}
			if !known[i] {
				continue
			}
			from := len(t.Args)
			switch t.Kind {
			case api.List:
				from = 0
			case api.Sig:
				from = 1
			case api.Seal:
				if known[t.Args[0]] {
					from = 1
				}
			case api.Box:
				whom := nodes[t.Args[0]]
				if known[t.Args[1]] || whom.Kind == api.Pub && known[whom.Args[0]] {
					from = 2
				}
			}
			for _, x := range t.Args[from:] {
				put(x)
			}
		}
	}
	return known
}

// random makes an arena of n terms of all kinds.
func random(r *rand.Rand, n int) *term.Arena {
	a := term.New()
	for a.Len() < n {
		kind := 1 + r.Intn(api.List)
		args := []int{}
		if a.Len() > 0 {
			for range r.Intn(4) {
				args = append(args, r.Intn(a.Len()))
			}
		}
		a.Make(kind, r.Intn(2)*r.Intn(50), args...)
	}
	return a
}

func TestP11_1Example(t *testing.T) {
	a := term.New()
	k, _ := a.Make(api.Atom, 1)
	m, _ := a.Make(api.Atom, 2)
	s, _ := a.Make(api.Seal, 0, k, m)
	for _, c := range []struct {
		some []int
		i    int
		want bool
	}{{[]int{s, k}, m, true}, {[]int{s}, m, false}, {[]int{s}, k, false}, {[]int{m, k}, s, true}, {[]int{s, m}, k, false}, {nil, k, false}} {
		if got, e := Is(a, c.some, c.i); e != api.OK || got != c.want {
			t.Error(c, got, e)
		}
	}
}

func TestP11_1Rules(t *testing.T) {
	a := term.New()
	put := func(kind, n int, args ...int) int {
		i, e := a.Make(kind, n, args...)
		if e != api.OK {
			t.Fatal(e)
		}
		return i
	}
	k, m, x := put(api.Atom, 1), put(api.Atom, 2), put(api.Atom, 3)
	w := put(api.Word, 9)
	pub := put(api.Pub, 0, k)
	box := put(api.Box, 0, pub, x, m)
	list := put(api.List, 0, m, x)
	sig := put(api.Sig, 0, k, m)
	hash := put(api.Hash, 0, m, w)
	kdf := put(api.Kdf, 4, m)
	none := put(api.List, 0)
	nothing := put(api.Hash, 0)
	odd := put(api.Box, 0, k, x, m)
	for i, c := range []struct {
		some []int
		i    int
		want bool
	}{
		{nil, w, true}, {nil, none, true}, {nil, nothing, true}, {nil, hash, false},
		{[]int{box}, m, false}, {[]int{box, k}, m, true}, {[]int{box, x}, m, true}, {[]int{box, pub}, m, false}, {[]int{box, k}, x, false}, {[]int{box, x}, pub, false},
		{[]int{odd, k}, m, false}, {[]int{odd, x}, m, true},
		{[]int{list}, m, true}, {[]int{list}, x, true}, {[]int{sig}, m, true}, {[]int{sig}, k, false}, {[]int{sig}, pub, false},
		{[]int{m}, hash, true}, {[]int{m}, kdf, true}, {[]int{hash, kdf}, m, false}, {[]int{k}, pub, true}, {[]int{pub}, k, false},
		{[]int{m}, sig, false}, {[]int{k, m}, sig, true}, {[]int{pub, x, m}, box, true},
	} {
		if got, e := Is(a, c.some, c.i); e != api.OK || got != c.want {
			t.Error(i, got, e)
		}
	}
}

func TestP11_1Any(t *testing.T) {
	r := rand.New(rand.NewSource(11))
	for range 400 {
		a := random(r, 60)
		var some []int
		for range r.Intn(12) {
			some = append(some, r.Intn(a.Len()))
		}
		before := slices.Clone(some)
		got, e := All(a, some)
		if e != api.OK || !slices.Equal(got, slow(a, some)) || !slices.Equal(some, before) || a.Len() != 60 {
			t.Fatal(some, e)
		}
		i := r.Intn(a.Len())
		if is, e := Is(a, some, i); e != api.OK || is != got[i] {
			t.Fatal("Is")
		}
	}
}

func TestP11_1Wrong(t *testing.T) {
	a := random(rand.New(rand.NewSource(1)), 5)
	for _, some := range [][]int{{5}, {-1}, {0, 1 << 40}} {
		if known, e := All(a, some); e != api.ErrNone || len(known) != 0 {
			t.Error(some, e)
		}
		if is, e := Is(a, some, 0); e != api.ErrNone || is {
			t.Error(some, e)
		}
	}
	for _, i := range []int{-1, 5, 1 << 40} {
		if is, e := Is(a, []int{0}, i); e != api.ErrNone || is {
			t.Error(i, e)
		}
	}
	if known, e := All(term.New(), nil); e != api.OK || len(known) != 0 {
		t.Error(e)
	}
}

func TestP11_2More(t *testing.T) {
	r := rand.New(rand.NewSource(12))
	for range 200 {
		a := random(r, 50)
		some := []int{r.Intn(50), r.Intn(50)}
		known, _ := All(a, some)
		more, _ := All(a, append(slices.Clone(some), r.Intn(50)))
		var l []int
		for i, is := range known {
			if is {
				l = append(l, i)
				if !more[i] {
					t.Fatal("less is known of more")
				}
			}
		}
		again, _ := All(a, l)
		if !slices.Equal(again, known) {
			t.Fatal("what is known of what is known")
		}
		// an Atom beneath nothing of some is not known
		under := map[int]int{}
		for _, i := range some {
			l, _ := a.Beneath(i)
			for _, j := range l {
				under[j]++
			}
		}
		for i, is := range known {
			if n, _ := a.Node(i); n.Kind == api.Atom && under[i] == 0 && is {
				t.Fatal("an Atom came from nowhere")
			}
		}
	}
}

// TestP11_1Great: it is not slow where much hangs on much.
func TestP11_1Great(t *testing.T) {
	a := term.New()
	first, _ := a.Make(api.Atom, 0)
	last := first
	for i := range 100000 {
		k, _ := a.Make(api.Atom, i+1)
		last, _ = a.Make(api.Seal, 0, last, k)
		last = k
	}
	some := make([]int, 0, a.Len())
	for i := range a.Len() {
		if n, _ := a.Node(i); n.Kind == api.Seal {
			some = append(some, i)
		}
	}
	if is, e := Is(a, some, last); e != api.OK || is {
		t.Error(e)
	}
	if is, e := Is(a, append(some, first), last); e != api.OK || !is {
		t.Error(e)
	}
}

// orders is all orders of l.
func orders(l []int) [][]int {
	if len(l) == 0 {
		return [][]int{nil}
	}
	var out [][]int
	for i, x := range l {
		for _, rest := range orders(slices.Delete(slices.Clone(l), i, i+1)) {
			out = append(out, append([]int{x}, rest...))
		}
	}
	return out
}

// TestP11_1LateSecret: what stands in a box is known, whenever the Pub, the box and the secret come to be known, and whatever the secret comes from.
func TestP11_1LateSecret(t *testing.T) {
	for name, wrap := range map[string]func(put func(kind int, args ...int) int, k, other int) []int{
		"alone": func(put func(int, ...int) int, k, other int) []int { return []int{k} },
		"list":  func(put func(int, ...int) int, k, other int) []int { return []int{put(api.List, k)} },
		"deep":  func(put func(int, ...int) int, k, other int) []int { return []int{put(api.List, put(api.List, k))} },
		"sig":   func(put func(int, ...int) int, k, other int) []int { return []int{put(api.Sig, other, k)} },
		"seal":  func(put func(int, ...int) int, k, other int) []int { return []int{put(api.Seal, other, k), other} },
		"box": func(put func(int, ...int) int, k, other int) []int {
			return []int{put(api.Box, put(api.Pub, other), k, k), other}
		},
		"made": func(put func(int, ...int) int, k, other int) []int { return []int{put(api.Box, k, other, k), other} },
	} {
		a := term.New()
		put := func(kind int, args ...int) int {
			i, e := a.Make(kind, 0, args...)
			if e != api.OK {
				t.Fatal(name, e)
			}
			return i
		}
		atom := func(n int) int {
			i, _ := a.Make(api.Atom, n)
			return i
		}
		k, with, m, other := atom(1), atom(2), atom(3), atom(4)
		pub := put(api.Pub, k)
		box := put(api.Box, pub, with, m)
		told := wrap(put, k, other)
		for _, some := range orders(append(told, pub, box)) {
			all, e := All(a, some)
			if e != api.OK || !slices.Equal(all, slow(a, some)) || !all[m] || all[with] {
				t.Error(name, some, all, e)
			}
			if is, e := Is(a, some, m); e != api.OK || !is {
				t.Error(name, some, is, e)
			}
		}
		// without the secret the box stays shut
		if is, e := Is(a, []int{pub, box}, m); e != api.OK || is {
			t.Error(name, is, e)
		}
	}
}

// boxes makes an arena of some secrets, and of Pubs, boxes, seals and lists that lead from one to another.
func boxes(r *rand.Rand) *term.Arena {
	a := term.New()
	for i := range 8 {
		a.Make(api.Atom, i)
	}
	for i := range 8 {
		a.Make(api.Pub, 0, i)
	}
	for range 12 {
		a.Make(api.Box, 0, 8+r.Intn(8), r.Intn(8), r.Intn(a.Len()))
		a.Make(api.Seal, 0, r.Intn(8), r.Intn(a.Len()))
		a.Make(api.Sig, 0, r.Intn(8), r.Intn(a.Len()))
		a.Make(api.List, 0, r.Intn(a.Len()))
	}
	return a
}

// TestP11_1AnyBoxes: where much stands in boxes, what is known is the least set, in whatever order some are told.
func TestP11_1AnyBoxes(t *testing.T) {
	r := rand.New(rand.NewSource(13))
	for range 1000 {
		a := boxes(r)
		var some []int
		for i := 8; i < a.Len(); i++ {
			if r.Intn(3) == 0 {
				some = append(some, i)
			}
		}
		want := slow(a, some)
		for range 4 {
			r.Shuffle(len(some), func(i, j int) { some[i], some[j] = some[j], some[i] })
			if got, e := All(a, some); e != api.OK || !slices.Equal(got, want) {
				t.Fatal(some, e)
			}
		}
	}
}

// TestP11_1GreatBoxes: boxes that open one another are not slow either, nor many for one Pub.
func TestP11_1GreatBoxes(t *testing.T) {
	a := term.New()
	first, _ := a.Make(api.Atom, 0)
	with, _ := a.Make(api.Atom, 1)
	last := first
	var some []int
	for i := range 100000 {
		k, _ := a.Make(api.Atom, i+2)
		pub, _ := a.Make(api.Pub, 0, last)
		box, _ := a.Make(api.Box, 0, pub, with, k)
		some = append(some, pub, box)
		last = k
	}
	pub, _ := a.Make(api.Pub, 0, last)
	for i := range 100000 {
		w, _ := a.Make(api.Word, i)
		box, _ := a.Make(api.Box, 0, pub, with, w)
		some = append(some, box)
	}
	held, _ := a.Make(api.List, 0, first)
	if is, e := Is(a, some, last); e != api.OK || is {
		t.Error(is, e)
	}
	for _, told := range [][]int{append([]int{held}, some...), append(slices.Clone(some), held)} {
		if is, e := Is(a, told, last); e != api.OK || !is {
			t.Error(is, e)
		}
		if is, e := Is(a, told, with); e != api.OK || is {
			t.Error(is, e)
		}
	}
}
