package path

import (
	"math/rand"
	"reflect"
	"slices"
	"testing"

	"tryst/api"
	"tryst/nodes"
	"tryst/term"
	"tryst/tree"
)

// bench is an arena, a tree, and what each leaf's member holds.
type bench struct {
	t     *testing.T
	a     *term.Arena
	tree  []api.Node
	privs map[int][]api.Key
	draws int
}

func (b *bench) put(kind, n int, args ...int) int {
	b.t.Helper()
	i, e := b.a.Make(kind, n, args...)
	if e != api.OK {
		b.t.Fatal(kind, n, args, e)
	}
	return i
}

func (b *bench) draw() int {
	b.draws++
	return b.put(api.Atom, b.draws)
}

// add adds a client with a key of its own.
func (b *bench) add(client int) int {
	key := b.draw()
	pub := b.put(api.Pub, 0, key)
	if b.tree == nil {
		b.tree, _ = tree.New(client, pub, pub)
		b.privs[0] = []api.Key{{N: 0, Secret: key}}
		return 0
	}
	u, at, e := tree.Add(b.tree, client, pub, pub)
	if e != api.OK {
		b.t.Fatal(e)
	}
	b.tree = u
	b.privs[at] = []api.Key{{N: 2 * at, Secret: key}}
	return at
}

func newBench(t *testing.T, clients int) *bench {
	b := &bench{t: t, a: term.New(), privs: map[int][]api.Key{}}
	for c := range clients {
		b.add(c)
	}
	return b
}

// commit lets the leaf i make new secrets, and all others but out open them.
func (b *bench) commit(i int, out []int) {
	b.t.Helper()
	before := reflect.ValueOf(b.tree).Len()
	u, steps, privs, commit, e := Make(b.a, b.tree, i, b.draw(), out)
	if e != api.OK || len(u) != before || tree.Check(u) != api.OK {
		b.t.Fatal(e)
	}
	for _, j := range tree.Members(b.tree) {
		if j == i {
			continue
		}
		v, keys, c, e := Open(b.a, b.tree, i, u[2*i].Pub, steps, j, b.privs[j], out)
		if slices.Contains(out, j) {
			continue
		}
		if e != api.OK || c != commit || !sameTree(u, v) {
			b.t.Fatal(i, j, e)
		}
		b.privs[j] = keys
	}
	b.privs[i] = privs
	b.tree = u
}

func sameTree(t, u []api.Node) bool {
	return slices.EqualFunc(t, u, func(m, n api.Node) bool {
		return m.Kind == n.Kind && m.Client == n.Client && m.Pub == n.Pub && m.Sig == n.Sig && slices.Equal(m.Unmerged, n.Unmerged)
	})
}

func TestP17_1Nodes(t *testing.T) {
	b := newBench(t, 5)
	for i, want := range [][]int{{1, 3, 7}, {1, 3, 7}, {5, 3, 7}, {5, 3, 7}, {7}} {
		got, e := Nodes(b.tree, i)
		if e != api.OK || !slices.Equal(got, want) {
			t.Error(i, got, e)
		}
	}
	for _, i := range []int{-1, 5, 7, 8, 1 << 62} {
		got, e := Nodes(b.tree, i)
		l, f := Told(b.tree, i, 1, nil)
		if e != api.ErrNone || f != api.ErrNone || len(got)+len(l) != 0 {
			t.Error(i, e)
		}
	}
	if _, e := Nodes(nil, 0); e != api.ErrTree {
		t.Error(e)
	}
	if _, e := Told(make([]api.Node, 3), 0, 1, nil); e != api.ErrTree {
		t.Error(e)
	}
	two := newBench(t, 2)
	if l, e := Nodes(two.tree, 0); e != api.OK || !slices.Equal(l, []int{1}) {
		t.Error(l, e)
	}
	if l, e := Told(two.tree, 0, 1, nil); e != api.OK || !slices.Equal(l, []int{2}) {
		t.Error(l, e)
	}
	one := newBench(t, 1)
	if l, e := Nodes(one.tree, 0); e != api.OK || len(l) != 0 {
		t.Error(l, e)
	}
}

func TestP17_1Told(t *testing.T) {
	b := newBench(t, 5)
	for _, c := range []struct {
		i, x int
		out  []int
		want []int
		e    api.Errno
	}{
		{0, 1, nil, []int{2}, api.OK}, {0, 3, nil, []int{4, 6}, api.OK}, {0, 7, nil, []int{8}, api.OK}, {4, 7, nil, []int{0, 2, 4, 6}, api.OK},
		{4, 7, []int{3, 1, 9, -1, 1 << 62, 1}, []int{0, 4}, api.OK}, {0, 1, []int{1}, nil, api.OK}, {0, 3, []int{0}, []int{4, 6}, api.OK},
		{4, 9, nil, nil, api.ErrArg}, {4, 11, nil, nil, api.ErrArg}, {0, 5, nil, nil, api.ErrArg}, {0, -1, nil, nil, api.ErrArg}, {0, 0, nil, nil, api.ErrArg}, {0, 99, nil, nil, api.ErrArg},
	} {
		got, e := Told(b.tree, c.i, c.x, c.out)
		if e != c.e || !slices.Equal(got, c.want) {
			t.Error(c, got, e)
		}
	}
	b.commit(1, nil)
	if got, _ := Told(b.tree, 4, 7, nil); !slices.Equal(got, []int{3}) {
		t.Error(got)
	}
	b.tree[3].Unmerged = []int{2}
	if got, _ := Told(b.tree, 4, 7, nil); !slices.Equal(got, []int{3, 4}) {
		t.Error(got)
	}
	if got, _ := Told(b.tree, 4, 7, []int{2, 3}); !slices.Equal(got, []int{3}) {
		t.Error(got)
	}
}

func TestP17_2Make(t *testing.T) {
	b := newBench(t, 4)
	s := b.draw()
	before := slices.Clone(b.tree)
	u, steps, privs, commit, e := Make(b.a, b.tree, 2, s, []int{3})
	kdf := func(x, n int) int { return b.put(api.Kdf, n, x) }
	pub := func(x int) int { return b.put(api.Pub, 0, x) }
	s1 := kdf(s, 2)
	s2 := kdf(s1, 2)
	want := []api.Node{before[0], {}, before[2], {Kind: api.Parent, Pub: pub(kdf(s2, 1))}, before[4], {Kind: api.Parent, Pub: pub(kdf(s1, 1))}, before[6]}
	want[4].Pub = pub(kdf(s, 1))
	if e != api.OK || !sameTree(u, want) || !sameTree(before, b.tree) {
		t.Error(u, e)
	}
	box := func(x, r, sk int) int { return b.put(api.Box, 0, b.tree[x].Pub, kdf(sk, 3+r), sk) }
	if !reflect.DeepEqual(steps, []api.Step{{Node: 5, Pub: pub(kdf(s1, 1)), Boxes: nil}, {Node: 3, Pub: pub(kdf(s2, 1)), Boxes: []int{box(0, 0, s2), box(2, 1, s2)}}}) {
		t.Error(steps)
	}
	if !slices.Equal(privs, []api.Key{{N: 4, Secret: kdf(s, 1)}, {N: 5, Secret: kdf(s1, 1)}, {N: 3, Secret: kdf(s2, 1)}}) || commit != kdf(s2, 2) {
		t.Error(privs, commit)
	}
	one := newBench(t, 1)
	s = one.draw()
	u, steps, privs, commit, e = Make(one.a, one.tree, 0, s, nil)
	if e != api.OK || len(steps) != 0 || len(privs) != 1 || commit != one.put(api.Kdf, 2, s) || u[0].Pub != one.put(api.Pub, 0, one.put(api.Kdf, 1, s)) {
		t.Error(u, steps, privs, commit, e)
	}
}

func TestP17_2MakeErrors(t *testing.T) {
	b := newBench(t, 3)
	s := b.draw()
	change := func(x, pub int) []api.Node {
		u := slices.Clone(b.tree)
		u[x].Pub = pub
		return u
	}
	for i, c := range []struct {
		t      []api.Node
		i      int
		secret int
		out    []int
		e      api.Errno
	}{
		{nil, 0, s, nil, api.ErrTree}, {b.tree, 3, s, nil, api.ErrNone}, {b.tree, -1, s, nil, api.ErrNone}, {b.tree, 0, -1, nil, api.ErrNone}, {b.tree, 0, b.a.Len() + 99, nil, api.ErrNone},
		{change(4, 1<<40), 0, s, nil, api.ErrNone}, {change(0, 1<<40), 0, s, nil, api.ErrNone}, {change(2, s), 0, s, nil, api.ErrKind}, {change(4, s), 0, s, nil, api.ErrKind},
		{change(4, s), 0, -1, nil, api.ErrNone}, {change(4, s), 0, s, []int{2}, api.OK}, {change(0, s), 0, s, nil, api.OK},
	} {
		u, steps, privs, commit, e := Make(b.a, c.t, c.i, c.secret, c.out)
		if e != c.e || e != api.OK && len(u)+len(steps)+len(privs)+commit != 0 {
			t.Error(i, e)
		}
	}
}

func TestP17_2Full(t *testing.T) {
	b := newBench(t, 2)
	s := b.draw()
	for b.a.Len() < api.MaxTerms-5 {
		b.draw()
	}
	if _, _, _, _, e := Make(b.a, b.tree, 0, s, nil); e != api.ErrFull {
		t.Error(e)
	}
}

func TestP17_3OpenErrors(t *testing.T) {
	b := newBench(t, 5)
	b.commit(0, nil)
	b.commit(4, nil)
	b.commit(2, nil)
	u, steps, _, _, e := Make(b.a, b.tree, 0, b.draw(), nil)
	if e != api.OK {
		t.Fatal(e)
	}
	pub := u[0].Pub
	atom := b.draw()
	other := b.put(api.Pub, 0, atom)
	change := func(f func(l []api.Step) []api.Step) []api.Step {
		var l []api.Step
		for _, s := range steps {
			s.Boxes = slices.Clone(s.Boxes)
			l = append(l, s)
		}
		return f(l)
	}
	two := b.put(api.Box, 0, b.tree[2].Pub, atom, atom, atom)
	wrong := b.put(api.Box, 0, b.tree[2].Pub, atom, atom)
	none := b.put(api.Box, 0, other, atom, atom)
	p := b.privs
	with := func(f func(t []api.Node)) []api.Node {
		u := slices.Clone(b.tree)
		f(u)
		return u
	}
	told, _ := b.a.Unbox(steps[0].Boxes[0], b.privs[1][0].Secret)
	more := b.put(api.Box, 0, b.tree[2].Pub, atom, told[0], atom)
	for i, c := range []struct {
		t      []api.Node
		i, pub int
		steps  []api.Step
		j      int
		privs  []api.Key
		out    []int
		e      api.Errno
	}{
		{b.tree, 0, pub, steps, 1, p[1], nil, api.OK},
		{nil, 0, pub, steps, 1, p[1], nil, api.ErrTree},
		{b.tree, 5, pub, steps, 1, p[1], nil, api.ErrNone}, {b.tree, 0, pub, steps, 5, p[1], nil, api.ErrNone}, {b.tree, 0, pub, steps, -1, p[1], nil, api.ErrNone},
		{b.tree, 0, -1, steps, 1, p[1], nil, api.ErrNone}, {b.tree, 0, -1, steps, 0, p[1], nil, api.ErrNone}, {b.tree, 0, pub, steps, 0, p[0], nil, api.ErrArg}, {b.tree, 0, pub, nil, 0, nil, nil, api.ErrArg},
		{b.tree, 0, pub, change(func(l []api.Step) []api.Step { l[2].Pub = -1; return l }), 1, p[1], nil, api.ErrNone},
		{b.tree, 0, pub, change(func(l []api.Step) []api.Step { l[2].Boxes[0] = 1 << 40; return l }), 1, p[1], nil, api.ErrNone},
		{b.tree, 0, pub, steps, 1, append(slices.Clone(p[1]), api.Key{N: 99, Secret: -1}), nil, api.ErrNone},
		{b.tree, 0, pub, nil, 1, p[1], nil, api.ErrPath}, {b.tree, 0, pub, steps[:2], 1, p[1], nil, api.ErrPath}, {b.tree, 0, pub, append(slices.Clone(steps), steps[0]), 1, p[1], nil, api.ErrPath},
		{b.tree, 0, pub, change(func(l []api.Step) []api.Step { l[2].Node = 5; return l }), 1, p[1], nil, api.ErrPath},
		{b.tree, 0, pub, change(func(l []api.Step) []api.Step { l[0], l[1] = l[1], l[0]; return l }), 1, p[1], nil, api.ErrPath},
		{b.tree, 0, pub, change(func(l []api.Step) []api.Step { l[2].Boxes = append(l[2].Boxes, l[0].Boxes[0]); return l }), 1, p[1], nil, api.ErrPath},
		{b.tree, 0, pub, change(func(l []api.Step) []api.Step { l[1].Boxes = nil; return l }), 1, p[1], nil, api.ErrPath},
		{b.tree, 0, pub, steps, 1, p[1], []int{1}, api.ErrPath},
		{b.tree, 0, atom, steps, 1, p[1], nil, api.ErrPath},
		{b.tree, 0, pub, change(func(l []api.Step) []api.Step { l[2].Pub = atom; return l }), 1, p[1], nil, api.ErrPath},
		{b.tree, 0, pub, change(func(l []api.Step) []api.Step { l[2].Pub = other; return l }), 1, p[1], nil, api.ErrPath},
		{b.tree, 0, pub, change(func(l []api.Step) []api.Step { l[0].Pub = other; return l }), 1, p[1], nil, api.ErrPath},
		{b.tree, 0, pub, change(func(l []api.Step) []api.Step { l[0].Pub = other; return l }), 3, p[3], nil, api.OK},
		{b.tree, 0, pub, change(func(l []api.Step) []api.Step { l[0].Boxes[0] = two; return l }), 1, p[1], nil, api.ErrPath},
		{b.tree, 0, pub, change(func(l []api.Step) []api.Step { l[0].Boxes[0] = wrong; return l }), 1, p[1], nil, api.ErrPath},
		{b.tree, 0, pub, change(func(l []api.Step) []api.Step { l[0].Boxes[0] = none; return l }), 1, p[1], nil, api.ErrPath},
		{b.tree, 0, pub, change(func(l []api.Step) []api.Step { l[0].Boxes[0] = atom; return l }), 1, p[1], nil, api.ErrPath},
		{b.tree, 0, pub, steps, 1, nil, nil, api.ErrPath}, {b.tree, 0, pub, steps, 1, []api.Key{{N: 2, Secret: atom}, p[1][0]}, nil, api.ErrPath},
		{b.tree, 0, other, steps, 1, p[1], nil, api.OK},
		{with(func(t []api.Node) { t[8].Pub = 1 << 40 }), 0, pub, steps, 1, p[1], nil, api.ErrNone}, {with(func(t []api.Node) { t[8].Sig = 1 << 40 }), 0, pub, steps, 1, p[1], nil, api.ErrNone}, {with(func(t []api.Node) { t[7].Pub = 1 << 40 }), 0, pub, steps, 1, p[1], nil, api.ErrNone},
		{b.tree, 0, pub, change(func(l []api.Step) []api.Step { l[0].Pub = atom; return l }), 3, p[3], nil, api.ErrPath},
		{b.tree, 0, pub, change(func(l []api.Step) []api.Step { l[0].Boxes[0] = more; return l }), 1, p[1], nil, api.ErrPath},
	} {
		u, keys, commit, e := Open(b.a, c.t, c.i, c.pub, c.steps, c.j, c.privs, c.out)
		if e != c.e || e != api.OK && len(u)+len(keys)+commit != 0 {
			t.Error(i, e)
		}
		if e == api.OK && (u[0].Pub != c.pub || tree.Check(u) != api.OK) {
			t.Error(i, u)
		}
	}
}

func TestP17_3Keys(t *testing.T) {
	b := newBench(t, 4)
	b.commit(2, nil)
	b.commit(0, nil)
	u, steps, _, _, _ := Make(b.a, b.tree, 1, b.draw(), nil)
	held := append(slices.Clone(b.privs[3]), api.Key{N: 77, Secret: 0}, api.Key{N: 1, Secret: 0})
	room := append(slices.Clone(held), api.Key{N: 1, Secret: 1})
	v, keys, _, e := Open(b.a, b.tree, 1, u[2].Pub, steps, 3, room[:len(held)], nil)
	if e != api.OK || !sameTree(u, v) {
		t.Fatal(e)
	}
	var want []api.Key
	for _, k := range held {
		if k.N != 1 && k.N != 3 {
			want = append(want, k)
		}
	}
	n, _ := b.a.Node(v[3].Pub)
	want = append(want, api.Key{N: 3, Secret: n.Args[0]})
	if !slices.Equal(keys, want) || len(want) != 4 {
		t.Error(keys, want)
	}
	for i := range keys {
		keys[i] = api.Key{}
	}
	if !slices.Equal(held, room[:len(held)]) || room[len(held)] != (api.Key{N: 1, Secret: 1}) {
		t.Error("what was handed in is changed")
	}
}

// TestP17_4Agree lets members commit, be added and removed at random.
func TestP17_4Agree(t *testing.T) {
	r := rand.New(rand.NewSource(17))
	for range 60 {
		b := newBench(t, 1)
		for range 25 {
			members := tree.Members(b.tree)
			i := members[r.Intn(len(members))]
			var fresh []int
			switch r.Intn(4) {
			case 0, 1:
				client := r.Intn(8)
				if tree.Find(b.tree, client) < 0 {
					fresh = append(fresh, b.add(client))
				}
			case 2:
				j := members[r.Intn(len(members))]
				if j != i {
					b.tree, _ = tree.Remove(b.tree, j)
					delete(b.privs, j)
				}
			}
			b.commit(i, fresh)
			for _, j := range fresh {
				// who is new is told the keys above both by other means
				b.privs[j] = b.privs[j][:1]
				for _, x := range b.privs[i] {
					if x.N%2 == 1 && nodes.Has(x.N, j) {
						b.privs[j] = append(b.privs[j], x)
					}
				}
			}
		}
	}
}
