package tree

import (
	"math/rand"
	"reflect"
	"slices"
	"testing"

	"tryst/api"
	"tryst/copies"
	"tryst/nodes"
	"tryst/term"
)

func leaf(client, pub, sig int) api.Node {
	return api.Node{Kind: api.Leaf, Client: client, Pub: pub, Sig: sig}
}

func parent(pub int, unmerged ...int) api.Node {
	return api.Node{Kind: api.Parent, Pub: pub, Unmerged: unmerged}
}

var blank = api.Node{}

// same holds trees against each other, nil being an empty list.
func same(t, u []api.Node) bool {
	return slices.EqualFunc(t, u, func(m, n api.Node) bool {
		l, k := m.Unmerged, n.Unmerged
		m.Unmerged, n.Unmerged = nil, nil
		return reflect.DeepEqual(m, n) && slices.Equal(l, k)
	})
}

// grown is a tree by some random calls and parents.
func grown(r *rand.Rand) []api.Node {
	t, _ := New(r.Intn(8), r.Intn(5), r.Intn(5))
	for range r.Intn(25) {
		var u []api.Node
		e := api.ErrArg
		switch r.Intn(6) {
		case 0, 1, 2:
			u, _, e = Add(t, r.Intn(8), r.Intn(5), r.Intn(5))
		case 3:
			u, e = Remove(t, r.Intn(8))
		case 4:
			u, e = Update(t, r.Intn(8), r.Intn(5))
		case 5:
			l := Members(t)
			i := l[r.Intn(len(l))]
			u, e = Update(t, i, r.Intn(5))
			path, _ := nodes.Path(i, (len(t)+1)/2)
			for _, x := range path {
				if r.Intn(4) > 0 {
					u[x] = parent(r.Intn(5))
				}
			}
		}
		if e == api.OK {
			t = u
		}
	}
	return t
}

func TestP16_1Check(t *testing.T) {
	full := []api.Node{leaf(0, 1, 2), parent(3, 0), leaf(7, 0, 0), parent(4, 0, 1, 2), leaf(1, 9, 9), blank, blank}
	good := [][]api.Node{{leaf(3, 0, 0)}, {leaf(0, 5, 5), blank, leaf(1, 5, 5)}, {blank, blank, leaf(1, 5, 5)}, {blank, parent(1), leaf(1, 5, 5)}, full}
	for i, g := range good {
		if Check(g) != api.OK {
			t.Error(i)
		}
	}
	change := func(x int, n api.Node) []api.Node {
		u := slices.Clone(full)
		u[x] = n
		return u
	}
	bad := [][]api.Node{
		nil, {blank}, {parent(1)}, {leaf(0, 0, 0), blank}, {blank, blank, blank}, make([]api.Node, 5), append(slices.Clone(full), blank, leaf(2, 0, 0)), append(slices.Clone(full), make([]api.Node, 9)...),
		append(slices.Clone(full), make([]api.Node, 24)...),
		change(0, leaf(7, 1, 1)), change(0, leaf(-1, 1, 1)), change(0, leaf(8, 1, 1)), change(0, leaf(2, -1, 1)), change(0, leaf(2, 1, -1)),
		change(0, parent(1)), change(1, leaf(3, 1, 1)), change(1, parent(-1)), change(5, api.Node{Kind: 3}), change(5, api.Node{Kind: -1}),
		change(5, parent(1, 3)), change(5, parent(1, 0)), change(1, parent(1, 1, 0)), change(1, parent(1, 0, 0)), change(1, parent(1, -1)), change(1, parent(1, 2)), change(3, parent(1, 3)), change(3, parent(1, 1<<62)),
		change(5, api.Node{Pub: 1}), change(5, api.Node{Sig: 1}), change(5, api.Node{Client: 1}), change(5, api.Node{Unmerged: []int{0}}), change(4, api.Node{Unmerged: []int{0}}),
		change(0, api.Node{Kind: api.Leaf, Client: 2, Unmerged: []int{0}}), change(1, api.Node{Kind: api.Parent, Client: 1}), change(1, api.Node{Kind: api.Parent, Sig: 1}),
	}
	for i, b := range bad {
		if Check(b) != api.ErrTree {
			t.Error("bad", i)
		}
		u, at, e := Add(b, 5, 1, 1)
		v, f := Update(b, 0, 1)
		w, g := Remove(b, 0)
		l, h := Res(b, 0)
		n, k := Term(term.New(), b)
		if e != api.ErrTree || f != api.ErrTree || g != api.ErrTree || h != api.ErrTree || k != api.ErrTree || len(u)+at+len(v)+len(w)+len(l)+n > 0 {
			t.Error("not asked first", i)
		}
		if len(Members(b)) != 0 || Find(b, 0) != -1 {
			t.Error("Members, Find", i)
		}
	}
}

func TestP16_1Plain(t *testing.T) {
	u, e := New(7, 3, 4)
	if e != api.OK || !same(u, []api.Node{leaf(7, 3, 4)}) {
		t.Error(u, e)
	}
	for _, c := range [][3]int{{-1, 0, 0}, {8, 0, 0}, {0, -1, 0}, {0, 0, -1}} {
		if u, e := New(c[0], c[1], c[2]); e != api.ErrArg || len(u) != 0 {
			t.Error(c, e)
		}
		if u, at, e := Add([]api.Node{leaf(7, 3, 4)}, c[0], c[1], c[2]); e != api.ErrArg || len(u)+at != 0 {
			t.Error(c, e)
		}
	}
	v := []api.Node{leaf(5, 1, 2), blank, leaf(7, 0, 0), parent(4, 1), leaf(1, 9, 9), parent(2), blank}
	if !slices.Equal(Members(v), []int{0, 1, 2}) || Find(v, 1) != 2 || Find(v, 5) != 0 || Find(v, 0) != -1 || Find(v, -1) != -1 {
		t.Error("Members, Find")
	}
	for x, want := range [][]int{{0}, {0, 2}, {2}, {3, 2}, {4}, {5}, nil} {
		got, e := Res(v, x)
		if e != api.OK || !slices.Equal(got, want) {
			t.Error(x, got, e)
		}
	}
	for _, x := range []int{-1, 7, 1 << 62} {
		if l, e := Res(v, x); e != api.ErrArg || len(l) != 0 {
			t.Error(x, e)
		}
	}
	w := []api.Node{leaf(0, 1, 2), blank, leaf(1, 0, 0), blank, leaf(2, 9, 9), blank, blank}
	if got, _ := Res(w, 3); !slices.Equal(got, []int{0, 2, 4}) {
		t.Error(got)
	}
}

func TestP16_2Add(t *testing.T) {
	u := []api.Node{leaf(5, 1, 2)}
	v, at, e := Add(u, 3, 4, 6)
	if e != api.OK || at != 1 || !same(v, []api.Node{leaf(5, 1, 2), blank, leaf(3, 4, 6)}) {
		t.Error(v, at, e)
	}
	v[1] = parent(9)
	w, at, e := Add(v, 0, 7, 8)
	if e != api.OK || at != 2 || !same(w, []api.Node{leaf(5, 1, 2), parent(9), leaf(3, 4, 6), blank, leaf(0, 7, 8), blank, blank}) {
		t.Error(w, at, e)
	}
	w[3], w[2] = parent(11, 2), blank
	x, at, e := Add(w, 6, 1, 1)
	want := []api.Node{leaf(5, 1, 2), parent(9, 1), leaf(6, 1, 1), parent(11, 1, 2), leaf(0, 7, 8), blank, blank}
	if e != api.OK || at != 1 || !same(x, want) {
		t.Error(x, at, e)
	}
	if _, _, e := Add(x, 6, 1, 1); e != api.ErrTwice {
		t.Error(e)
	}
	for client := range 8 {
		if y, _, e := Add(x, client, 1, 1); e == api.OK {
			x = y
		}
	}
	if len(Members(x)) != 8 {
		t.Error("eight")
	}
	if _, _, e := Add(x, 2, 1, 1); e != api.ErrTwice {
		t.Error(e)
	}
}

func TestP16_2UpdateRemove(t *testing.T) {
	v := []api.Node{leaf(5, 1, 2), parent(8, 1), leaf(7, 0, 0), parent(4, 1), leaf(1, 9, 9), parent(2), leaf(0, 1, 1)}
	u, e := Update(v, 1, 6)
	if e != api.OK || !same(u, []api.Node{leaf(5, 1, 2), blank, leaf(7, 6, 0), blank, leaf(1, 9, 9), parent(2), leaf(0, 1, 1)}) {
		t.Error(u, e)
	}
	r, e := Remove(v, 1)
	if e != api.OK || !same(r, []api.Node{leaf(5, 1, 2), blank, blank, blank, leaf(1, 9, 9), parent(2), leaf(0, 1, 1)}) {
		t.Error(r, e)
	}
	r, _ = Remove(v, 2)
	r, e = Remove(r, 3)
	if e != api.OK || !same(r, []api.Node{leaf(5, 1, 2), parent(8, 1), leaf(7, 0, 0)}) {
		t.Error(r, e)
	}
	r, e = Remove(r, 1)
	if e != api.OK || !same(r, []api.Node{leaf(5, 1, 2)}) {
		t.Error(r, e)
	}
	if u, e := Remove(r, 0); e != api.ErrArg || len(u) != 0 {
		t.Error("the only one", e)
	}
	far := append([]api.Node{leaf(5, 1, 2)}, make([]api.Node, 14)...)
	far[14] = leaf(1, 1, 1)
	if u, e := Remove(far, 7); e != api.OK || !same(u, []api.Node{leaf(5, 1, 2)}) {
		t.Error("halved more than once", u, e)
	}
	if u, e := Remove(far, 0); e != api.OK || len(u) != 15 {
		t.Error("only the right half goes", e)
	}
	for _, i := range []int{-1, 1, 8, 1 << 62, -1 << 63} {
		if u, e := Update(far, i, -1); e != api.ErrNone || len(u) != 0 {
			t.Error(i, e)
		}
		if u, e := Remove(far, i); e != api.ErrNone || len(u) != 0 {
			t.Error(i, e)
		}
	}
	if u, e := Update(far, 0, -1); e != api.ErrArg || len(u) != 0 {
		t.Error(e)
	}
}

func TestP16_2NothingShared(t *testing.T) {
	r := rand.New(rand.NewSource(2))
	for range 200 {
		u := grown(r)
		before := copies.Tree(u)
		var made [][]api.Node
		v, _, _ := Add(u, r.Intn(8), 1, 1)
		w, _ := Update(u, r.Intn(8), 1)
		x, _ := Remove(u, r.Intn(8))
		made = append(made, v, w, x)
		for _, m := range made {
			for i := range m {
				for j := range m[i].Unmerged {
					m[i].Unmerged[j] = 99
				}
				_ = append(m[i].Unmerged, 99)
				m[i] = leaf(9, 9, 9)
			}
		}
		if !same(u, before) {
			t.Fatal("shared")
		}
	}
}

func TestP16_3Term(t *testing.T) {
	a := term.New()
	put := func(kind, n int, args ...int) int {
		i, _ := a.Make(kind, n, args...)
		return i
	}
	x, y := put(api.Atom, 1), put(api.Atom, 2)
	u := []api.Node{leaf(5, x, y), parent(y, 1), leaf(7, y, y), blank, blank, blank, blank}
	got, e := Term(a, u)
	w := func(n int) int { return put(api.Word, n) }
	want := put(api.List, 0, put(api.List, 0, w(1), w(5), x, y), put(api.List, 0, w(2), y, put(api.List, 0, w(1))), put(api.List, 0, w(1), w(7), y, y), w(0), w(0), w(0), w(0))
	if e != api.OK || got != want {
		t.Error(got, want, e)
	}
	for _, bad := range [][]api.Node{{leaf(5, 10000, y)}, {leaf(5, x, 10000)}, {leaf(5, x, y), parent(10000), blank}} {
		if i, e := Term(a, bad); e != api.ErrNone || i != 0 {
			t.Error(e)
		}
	}
	if i, e := Term(term.New(), []api.Node{leaf(0, 0, 0)}); e != api.ErrNone || i != 0 {
		t.Error(e)
	}
	one := put(api.List, 0, w(1), w(5), x, y)
	for i, bad := range []int{
		w(0), put(api.List, 0), put(api.List, 0, w(0)), put(api.List, 0, w(3)), put(api.List, 0, one, one), put(api.List, 0, one, w(0), one), put(api.Hash, 0, one),
		put(api.List, 0, one, w(0)), put(api.List, 0, one, w(0), w(0), w(0), w(0)), put(api.List, 0, put(api.List, 0, w(1), w(8), x, y)), put(api.List, 0, put(api.List, 0, w(1), x, x, y)),
		put(api.List, 0, put(api.List, 0, w(2), w(5), x, y)), put(api.List, 0, put(api.List, 0, w(1), w(5), x)), put(api.List, 0, put(api.List, 0, x, w(5), x, y)), put(api.List, 0, put(api.List, 0)),
		put(api.List, 0, put(api.Hash, 0, w(1), w(5), x, y)), put(api.List, 0, one, put(api.List, 0, w(2), x, w(0)), w(0)), put(api.List, 0, one, put(api.List, 0, w(2), x, put(api.List, 0, x)), w(0)),
		put(api.List, 0, one, put(api.List, 0, w(2), x, put(api.List, 0, w(1))), w(0)), put(api.List, 0, one, put(api.List, 0, w(2), x), w(0)), put(api.List, 0, one, x, w(0)),
	} {
		if v, e := Of(a, bad); e != api.ErrTree || len(v) != 0 {
			t.Error(i, v, e)
		}
	}
	for _, i := range []int{-1, a.Len()} {
		if v, e := Of(a, i); e != api.ErrNone || len(v) != 0 {
			t.Error(e)
		}
	}
}

func TestP16_4Right(t *testing.T) {
	r := rand.New(rand.NewSource(16))
	a := term.New()
	for i := range 5 {
		a.Make(api.Atom, i)
	}
	seen := map[int]int{}
	for range 3000 {
		u := grown(r)
		if Check(u) != api.OK {
			t.Fatal(u)
		}
		i, e := Term(a, u)
		v, f := Of(a, i)
		if e != api.OK || f != api.OK || !same(u, v) {
			t.Fatal("Of", e, f)
		}
		for x := range u {
			res, e := Res(u, x)
			if e != api.OK {
				t.Fatal(e)
			}
			// each leaf beneath stands there by itself, or by one Parent above it, not both
			for _, i := range Members(u) {
				if !nodes.Has(x, i) {
					continue
				}
				times := 0
				for _, y := range res {
					if y == 2*i || u[y].Kind == api.Parent && nodes.Has(y, i) && !slices.Contains(u[y].Unmerged, i) {
						times++
					}
				}
				if times != 1 {
					t.Fatal(u, x, i, res)
				}
			}
			for _, y := range res {
				if u[y].Kind == api.Blank {
					t.Fatal("a Blank in a resolution")
				}
				seen[u[y].Kind]++
			}
		}
	}
	if seen[api.Parent] < 100 || seen[api.Leaf] < 100 {
		t.Error(seen)
	}
}
