package group

import (
	"math/rand"
	"reflect"
	"slices"
	"testing"

	"tryst/api"
	"tryst/copies"
	"tryst/pack"
	"tryst/path"
	"tryst/ratchet"
	"tryst/sched"
	"tryst/term"
	"tryst/tree"
)

// bench is an arena, and draws.
type bench struct {
	t     *testing.T
	a     *term.Arena
	draws int
}

func newBench(t *testing.T) *bench { return &bench{t: t, a: term.New()} }

func (b *bench) put(kind, n int, args ...int) int {
	b.t.Helper()
	i, e := b.a.Make(kind, n, args...)
	if e != api.OK {
		b.t.Fatal(kind, n, args, e)
	}
	return i
}

func (b *bench) kdf(x, n int) int { return b.put(api.Kdf, n, x) }

func (b *bench) word(n int) int { return b.put(api.Word, n) }

func (b *bench) draw() int {
	b.draws++
	return b.put(api.Atom, b.draws)
}

// ok is what a call told without an error.
func ok[T any](t *testing.T) func(x T, e api.Errno) T {
	return func(x T, e api.Errno) T {
		t.Helper()
		if e != api.OK {
			t.Fatal(e)
		}
		return x
	}
}

func none(m api.Member) bool { return reflect.DeepEqual(m, api.Member{}) }

// offer is a package of a client, and its secret.
func (b *bench) offer(client int) (term, secret int) {
	secret = b.draw()
	return ok[api.Package](b.t)(pack.Package(b.a, client, secret)).Term, secret
}

// same tells whether both hold one epoch.
func same(m, n api.Member) bool {
	c := func(l []api.Ratchet) []api.Ratchet {
		var out []api.Ratchet
		for _, r := range l {
			out = append(out, api.Ratchet{Chain: r.Chain, Next: r.Next})
		}
		return out
	}
	tr := func(t []api.Node) []api.Node {
		u := copies.Tree(t)
		for i := range u {
			if len(u[i].Unmerged) == 0 {
				u[i].Unmerged = nil
			}
		}
		return u
	}
	return m.Epoch == n.Epoch && m.History == n.History && m.Secret == n.Secret && m.Init == n.Init && reflect.DeepEqual(tr(m.Tree), tr(n.Tree)) && reflect.DeepEqual(c(m.Chains), c(n.Chains))
}

// pair is a group of the clients 2 and 5, by one commit.
func pair(b *bench) (m, n api.Member) {
	b.t.Helper()
	m = ok[api.Member](b.t)(Create(b.a, 2, b.draw()))
	p, s := b.offer(5)
	_, w, next, e := Commit(b.a, m, []int{p}, nil, b.draw())
	if e != api.OK || len(w) != 1 {
		b.t.Fatal(e)
	}
	return next, ok[api.Member](b.t)(Join(b.a, 5, s, w[0]))
}

func TestP21_2Create(t *testing.T) {
	b := newBench(t)
	s := b.draw()
	m, e := Create(b.a, 2, s)
	p := ok[api.Package](t)(pack.Package(b.a, 2, s))
	tr := []api.Node{{Kind: api.Leaf, Client: 2, Pub: p.Pub, Sig: p.Sig}}
	tt := ok[int](t)(tree.Term(b.a, tr))
	h := ok[int](t)(sched.First(b.a, tt))
	es := b.put(api.Hash, 0, b.put(api.Hash, 0, b.kdf(s, 14), b.kdf(s, 15)), tt, h)
	want := api.Member{Client: 2, Tree: tr, Privs: []api.Key{{N: 0, Secret: b.kdf(s, 12)}}, Sig: b.kdf(s, 13), Init: b.kdf(es, 21), Secret: es, History: h, Chains: []api.Ratchet{{Chain: ok[int](t)(sched.Chain(b.a, es, 0))}}}
	if e != api.OK || !reflect.DeepEqual(m, want) || Check(b.a, m) != api.OK {
		t.Errorf("%v %+v %+v", e, m, want)
	}
	for _, c := range []struct {
		client, secret int
		e              api.Errno
	}{{-1, -1, api.ErrArg}, {8, s, api.ErrArg}, {1, -1, api.ErrNone}, {1, 1 << 40, api.ErrNone}} {
		if m, e := Create(b.a, c.client, c.secret); e != c.e || !none(m) {
			t.Error(c, e)
		}
	}
}

func TestP21_1Check(t *testing.T) {
	b := newBench(t)
	m, n := pair(b)
	m.Chains[1].Skipped = nil
	_, m.Chains[1], _ = ratchet.Take(b.a, m.Chains[1], 3)
	if Check(b.a, m) != api.OK || Check(b.a, n) != api.OK {
		t.Fatal("not right")
	}
	three := func(m *api.Member) {
		p, _ := b.offer(0)
		q, _ := b.offer(1)
		_, _, next, e := Commit(b.a, *m, []int{p, q}, []int{1}, b.draw())
		if e != api.OK || len(next.Tree) != 7 {
			t.Fatal(e, len(next.Tree))
		}
		*m = next
	}
	for i, f := range []func(m *api.Member){
		func(m *api.Member) { m.Tree = m.Tree[:2] }, func(m *api.Member) { m.Tree = nil }, func(m *api.Member) { m.Leaf = 1 }, func(m *api.Member) { m.Leaf = -1 }, func(m *api.Member) { m.Leaf = 2 }, func(m *api.Member) { m.Leaf = 1 << 62 },
		func(m *api.Member) { m.Client = 3 }, func(m *api.Member) { m.Sig = m.Secret }, func(m *api.Member) { m.Sig = -1 }, func(m *api.Member) { m.Tree[0].Sig = m.Sig }, func(m *api.Member) { m.Epoch = -1 }, func(m *api.Member) { m.Epoch = 1<<30 + 1 },
		func(m *api.Member) { m.Init = -1 }, func(m *api.Member) { m.Secret = 1 << 40 }, func(m *api.Member) { m.History = -1 }, func(m *api.Member) { m.Tree[2].Pub = 1 << 40 }, func(m *api.Member) { m.Tree[2].Sig = 1 << 40 }, func(m *api.Member) { m.Tree[1].Pub = 1 << 40 },
		func(m *api.Member) { m.Chains = m.Chains[:1] }, func(m *api.Member) { m.Chains = append(m.Chains, api.Ratchet{}) }, func(m *api.Member) { m.Chains[0].Next = -1 }, func(m *api.Member) { m.Chains[0].Chain = -1 }, func(m *api.Member) { m.Chains[1].Skipped[0].Secret = 1 << 40 },
		func(m *api.Member) { m.Privs = nil }, func(m *api.Member) { m.Privs = append(m.Privs, m.Privs[0]) }, func(m *api.Member) { m.Privs[0].Secret = m.Secret }, func(m *api.Member) { m.Privs = append(m.Privs, api.Key{N: 77, Secret: -1}) }, func(m *api.Member) { m.Privs[0].N = 2 },
		func(m *api.Member) { three(m); m.Chains[3].Next = 1 }, func(m *api.Member) { three(m); m.Chains[3].Chain = 1 }, func(m *api.Member) { three(m); m.Chains[3].Skipped = []api.Key{{N: 0, Secret: 0}} },
	} {
		bad := copies.Member(m)
		f(&bad)
		if e := Check(b.a, bad); e != api.ErrState {
			t.Error(i, e)
		}
		_, _, next, e := Commit(b.a, bad, nil, nil, -1)
		got, f := Process(b.a, bad, -1)
		if e != api.ErrState || f != api.ErrState || !none(next) || !none(got) {
			t.Error(i, e, f)
		}
	}
	good := copies.Member(m)
	good.Epoch = 1 << 30
	good.Privs = append(good.Privs, api.Key{N: 77, Secret: 0}, api.Key{N: 77, Secret: 0})
	three(&m)
	if Check(b.a, good) != api.OK || Check(b.a, m) != api.OK {
		t.Error("right ones")
	}
}

func TestP21_3Change(t *testing.T) {
	b := newBench(t)
	m, _ := pair(b)
	p0, _ := b.offer(0)
	p5, _ := b.offer(5)
	p7, _ := b.offer(7)
	eight := slices.Repeat([]int{p0}, 9)
	u, fresh, e := Change(b.a, m.Tree, []int{p7, p5, p0}, []int{1})
	if e != api.OK || !slices.Equal(fresh, []int{1, 2, 3}) || len(u) != 7 || u[2].Client != 7 || u[4].Client != 5 || u[6].Client != 0 || tree.Check(u) != api.OK || len(m.Tree) != 3 {
		t.Error(u, fresh, e)
	}
	u, fresh, e = Change(b.a, m.Tree, nil, nil)
	if e != api.OK || len(fresh) != 0 || !reflect.DeepEqual(u, m.Tree) {
		t.Error(e)
	}
	u[0].Client = 7
	if m.Tree[0].Client != 2 {
		t.Error("memory is shared")
	}
	bad := b.put(api.Sig, 0, b.kdf(0, 1), b.word(3))
	for i, c := range []struct {
		t             []api.Node
		adds, removes []int
		e             api.Errno
	}{
		{nil, eight, nil, api.ErrTree}, {m.Tree, eight, nil, api.ErrLen}, {m.Tree, nil, make([]int, 9), api.ErrLen}, {m.Tree, eight[:8], nil, api.ErrTwice}, {m.Tree, nil, slices.Repeat([]int{1}, 8), api.ErrNone}, {m.Tree, []int{-1}, []int{2}, api.ErrNone}, {m.Tree, nil, []int{1, 1}, api.ErrNone}, {m.Tree, []int{p0}, []int{0, 1}, api.ErrArg},
		{m.Tree, []int{-1}, nil, api.ErrNone}, {m.Tree, []int{bad}, nil, api.ErrKind}, {m.Tree, []int{p5, bad}, nil, api.ErrTwice}, {m.Tree, []int{p0, p0}, nil, api.ErrTwice}, {m.Tree, []int{p5}, []int{1}, api.OK},
	} {
		u, fresh, e := Change(b.a, c.t, c.adds, c.removes)
		if e != c.e || e != api.OK && len(u)+len(fresh) != 0 {
			t.Error(i, e)
		}
	}
}

func TestP21_4Commit(t *testing.T) {
	b := newBench(t)
	m, _ := pair(b)
	p, _ := b.offer(0)
	q, _ := b.offer(7)
	s := b.draw()
	before := copies.Member(m)
	adds, removes := []int{p, q}, []int{}
	commit, welcomes, next, e := Commit(b.a, m, adds, removes, s)
	if e != api.OK || !reflect.DeepEqual(m, before) {
		t.Fatal(e)
	}
	u, fresh, _ := Change(b.a, m.Tree, adds, removes)
	v, steps, privs, cs, _ := path.Make(b.a, u, 0, s, fresh)
	c := api.Commit{Epoch: 1, From: 0, Adds: adds, Pub: v[0].Pub, Steps: steps}
	h := ok[int](t)(sched.History(b.a, m.History, ok[int](t)(pack.Body(b.a, c))))
	joiner := ok[int](t)(sched.Joiner(b.a, m.Init, cs))
	tt := ok[int](t)(tree.Term(b.a, v))
	es := ok[int](t)(sched.Secret(b.a, joiner, tt, h))
	c.Tag = ok[int](t)(sched.Tag(b.a, es, h))
	if want := ok[int](t)(pack.Commit(b.a, m.Sig, c)); commit != want {
		t.Error("commit")
	}
	if next.Epoch != 2 || next.Secret != es || next.History != h || next.Init != ok[int](t)(sched.Start(b.a, es)) || !slices.Equal(next.Privs, privs) || next.Sig != m.Sig || next.Leaf != 0 || next.Client != 2 || len(next.Chains) != 4 || Check(b.a, next) != api.OK {
		t.Error(next)
	}
	for i, r := range next.Chains {
		if r.Chain != ok[int](t)(sched.Chain(b.a, es, i)) || r.Next != 0 {
			t.Error(i)
		}
	}
	// the node 1 is not above the new leaves: they are told the secret of the root
	sk := b.kdf(b.kdf(s, 2), 2)
	for k, add := range adds {
		init := ok[api.Package](t)(pack.ReadPackage(b.a, add)).Init
		want := b.put(api.Sig, 0, m.Sig, b.word(32), b.word(0), b.put(api.Box, 0, init, b.kdf(s, 40+k), joiner, tt, h, b.word(2), sk))
		if welcomes[k] != want {
			t.Error("welcome", k)
		}
	}
	for i, c := range []struct {
		adds, removes []int
		secret        int
		e             api.Errno
	}{{nil, []int{0}, -1, api.ErrNone}, {make([]int, 9), []int{1, 0}, s, api.ErrArg}, {make([]int, 9), nil, s, api.ErrLen}, {nil, []int{3}, s, api.ErrNone}, {[]int{s}, nil, s, api.ErrKind}} {
		commit, w, next, e := Commit(b.a, m, c.adds, c.removes, c.secret)
		if e != c.e || commit+len(w) != 0 || !none(next) {
			t.Error(i, e)
		}
	}
	odd := copies.Member(m)
	odd.Tree[2].Pub = s
	if _, _, _, e := Commit(b.a, odd, nil, nil, s); e != api.ErrKind {
		t.Error(e)
	}
	if _, _, last, e := Commit(b.a, m, nil, []int{1}, s); e != api.OK || len(last.Tree) != 1 || len(last.Privs) != 1 {
		t.Error("alone again", e)
	}
}

func TestP21_5Process(t *testing.T) {
	b := newBench(t)
	m, n := pair(b)
	s := b.draw()
	p, ps := b.offer(0)
	commit, w, next, _ := Commit(b.a, m, []int{p}, nil, s)
	before := copies.Member(n)
	got, e := Process(b.a, n, commit)
	if e != api.OK || !same(got, next) || !reflect.DeepEqual(n, before) || Check(b.a, got) != api.OK || got.Client != 5 || got.Leaf != 1 || got.Sig != n.Sig {
		t.Fatal(e)
	}
	third := ok[api.Member](t)(Join(b.a, 0, ps, w[0]))
	out, _, _, _ := Commit(b.a, got, nil, []int{2}, b.draw())
	if x, e := Process(b.a, third, out); e != api.ErrGone || !none(x) {
		t.Error("who is removed", e)
	}
	c, _, _ := pack.ReadCommit(b.a, commit)
	// again is that commit, altered, with the tag that then fits
	again := func(signer int, f func(c *api.Commit)) int {
		d := c
		d.Steps = slices.Clone(c.Steps)
		f(&d)
		return ok[int](t)(pack.Commit(b.a, signer, d))
	}
	full := func(c *api.Commit) {}
	for i, x := range []struct {
		m    api.Member
		term int
		e    api.Errno
	}{
		{n, -1, api.ErrNone}, {n, s, api.ErrKind}, {n, p, api.ErrKind}, {got, commit, api.ErrStale}, {m, commit, api.ErrState}, {n, again(n.Sig, func(c *api.Commit) { c.Epoch = 7; c.From = 1 }), api.ErrStale},
		{n, again(n.Sig, func(c *api.Commit) { c.From = 1 }), api.ErrState}, {n, again(m.Sig, func(c *api.Commit) { c.From = 3 }), api.ErrNone}, {n, again(n.Sig, full), api.ErrSign}, {n, again(n.Sig, func(c *api.Commit) { c.Removes = []int{0} }), api.ErrSign},
		{n, again(m.Sig, func(c *api.Commit) { c.Removes = []int{0}; c.Adds = []int{0} }), api.ErrArg}, {n, again(m.Sig, func(c *api.Commit) { c.Adds = []int{s} }), api.ErrKind}, {n, again(m.Sig, func(c *api.Commit) { c.Adds = make([]int, 9) }), api.ErrLen},
		{n, again(m.Sig, func(c *api.Commit) { c.Removes = []int{5} }), api.ErrNone}, {n, again(m.Sig, func(c *api.Commit) { c.Removes = []int{1}; c.Adds = []int{s} }), api.ErrKind}, {n, again(m.Sig, func(c *api.Commit) { c.Removes = []int{1} }), api.ErrGone},
		{n, again(m.Sig, func(c *api.Commit) { c.Steps = nil }), api.ErrPath}, {n, again(m.Sig, func(c *api.Commit) { c.Pub = s }), api.ErrPath}, {n, again(m.Sig, func(c *api.Commit) { c.Adds = nil }), api.ErrPath},
		{n, again(m.Sig, func(c *api.Commit) { c.Tag = s }), api.ErrTag}, {n, again(m.Sig, func(c *api.Commit) { c.Pub = m.Tree[0].Pub }), api.ErrTag}, {n, again(m.Sig, full), api.OK},
	} {
		y, e := Process(b.a, x.m, x.term)
		if e != x.e || e != api.OK && !none(y) {
			t.Error(i, e)
		}
	}
}

func TestP21_6Join(t *testing.T) {
	b := newBench(t)
	m, n := pair(b)
	p, ps := b.offer(0)
	s := b.draw()
	_, w, next, _ := Commit(b.a, m, []int{p}, nil, s)
	got, e := Join(b.a, 0, ps, w[0])
	if e != api.OK || !same(got, next) || got.Leaf != 2 || got.Client != 0 || got.Sig != b.kdf(ps, 13) || Check(b.a, got) != api.OK {
		t.Fatal(e)
	}
	if !slices.Equal(got.Privs, []api.Key{{N: 4, Secret: b.kdf(ps, 12)}, {N: 3, Secret: next.Privs[len(next.Privs)-1].Secret}}) {
		t.Error(got.Privs)
	}
	node, _ := b.a.Node(w[0])
	box, _ := b.a.Node(node.Args[3])
	init, with := box.Args[0], box.Args[1]
	in := box.Args[2:]
	// welcome is one with what is told altered
	welcome := func(signer, from int, in ...int) int {
		return b.put(api.Sig, 0, signer, b.word(32), b.word(from), b.put(api.Box, 0, append([]int{init, with}, in...)...))
	}
	alter := func(at, x int) []int {
		l := slices.Clone(in)
		l[at] = x
		return l
	}
	treeWith := func(f func(t []api.Node)) int {
		u := copies.Tree(next.Tree)
		f(u)
		return ok[int](t)(tree.Term(b.a, u))
	}
	other, os := b.offer(0)
	_ = other
	zero := b.word(0)
	for i, c := range []struct {
		client, secret, welcome int
		e                       api.Errno
	}{
		{0, ps, welcome(m.Sig, 0, in...), api.OK}, {8, -1, -1, api.ErrArg}, {0, -1, -1, api.ErrNone}, {0, ps, -1, api.ErrNone}, {0, ps, 1 << 40, api.ErrNone},
		{0, ps, s, api.ErrKind}, {0, ps, node.Args[3], api.ErrKind}, {0, ps, b.put(api.Sig, 0, m.Sig, b.word(33), b.word(0), node.Args[3]), api.ErrKind}, {0, ps, b.put(api.Sig, 0, m.Sig, b.word(32), s, node.Args[3]), api.ErrKind},
		{0, ps, b.put(api.Sig, 0, m.Sig, b.word(32), b.word(0), w[0]), api.ErrKind}, {0, ps, b.put(api.Sig, 0, m.Sig, b.word(32), b.word(0)), api.ErrKind}, {0, ps, b.put(api.Sig, 0, m.Sig, b.word(32), b.word(0), node.Args[3], zero), api.ErrKind},
		{0, ps, b.put(api.Seal, 0, m.Sig, b.word(32), b.word(0), node.Args[3]), api.ErrKind}, {0, ps, b.put(api.Sig, 0, m.Sig, s, b.word(0), node.Args[3]), api.ErrKind},
		{0, os, w[0], api.ErrOpen}, {0, ps, welcome(m.Sig, 0, in[:4]...), api.ErrOpen}, {0, ps, welcome(m.Sig, 0, append(slices.Clone(in), zero)...), api.ErrOpen},
		{0, ps, welcome(m.Sig, 0, alter(3, zero)...), api.ErrKind}, {0, ps, welcome(m.Sig, 0, alter(3, s)...), api.ErrKind}, {0, ps, welcome(m.Sig, 0, alter(1, s)...), api.ErrTree}, {0, ps, welcome(m.Sig, 0, alter(1, zero)...), api.ErrTree},
		{0, ps, welcome(m.Sig, 3, in...), api.ErrNone}, {0, ps, welcome(m.Sig, 1<<62, in...), api.ErrNone}, {7, ps, w[0], api.ErrNone}, {0, ps, welcome(n.Sig, 0, in...), api.ErrSign}, {0, ps, welcome(m.Sig, 1, in...), api.ErrSign}, {0, ps, welcome(n.Sig, 1, in...), api.OK},
		{5, ps, w[0], api.ErrState}, {0, ps, welcome(got.Sig, 2, in...), api.ErrState}, {0, ps, welcome(m.Sig, 0, alter(1, treeWith(func(t []api.Node) { t[4].Pub = t[0].Pub }))...), api.ErrState}, {0, ps, welcome(m.Sig, 0, alter(1, treeWith(func(t []api.Node) { t[4].Sig = t[0].Sig }))...), api.ErrState},
		{0, ps, welcome(m.Sig, 0, alter(4, s)...), api.ErrPath}, {0, ps, welcome(m.Sig, 0, alter(4, b.word(1))...), api.ErrPath}, {0, ps, welcome(m.Sig, 0, alter(1, treeWith(func(t []api.Node) { t[3].Unmerged = []int{2} }))...), api.ErrPath},
		{0, ps, welcome(m.Sig, 0, alter(1, treeWith(func(t []api.Node) { t[3].Pub = t[0].Pub }))...), api.ErrPath}, {0, ps, welcome(m.Sig, 0, alter(4, zero)...), api.OK},
	} {
		got, e := Join(b.a, c.client, c.secret, c.welcome)
		if e != c.e || e != api.OK && !none(got) {
			t.Error(i, e)
		}
	}
	bare := ok[api.Member](t)(Join(b.a, 0, ps, welcome(m.Sig, 0, alter(4, zero)...)))
	if !slices.Equal(bare.Privs, []api.Key{{N: 4, Secret: b.kdf(ps, 12)}}) || !same(bare, next) {
		t.Error(bare.Privs)
	}
}

// TestP21_7Agree lets members commit at random; all who take part come to one epoch.
func TestP21_7Agree(t *testing.T) {
	r := rand.New(rand.NewSource(21))
	commits := 0
	for range 25 {
		b := newBench(t)
		all := map[int]api.Member{}
		first := r.Intn(8)
		all[first] = ok[api.Member](t)(Create(b.a, first, b.draw()))
		for range 25 {
			var in []int
			for client := range 8 {
				if _, there := all[client]; there {
					in = append(in, client)
				}
			}
			who := in[r.Intn(len(in))]
			m := all[who]
			var adds, removes []int
			secrets := map[int]int{}
			for client := range 8 {
				n, there := all[client]
				if there && client != who && r.Intn(5) == 0 {
					removes = append(removes, n.Leaf)
				}
				gone := slices.Contains(removes, n.Leaf) && there
				if (!there || gone) && r.Intn(4) == 0 {
					p, s := b.offer(client)
					adds, secrets[client] = append(adds, p), s
				}
			}
			r.Shuffle(len(adds), func(i, j int) { adds[i], adds[j] = adds[j], adds[i] })
			commit, welcomes, next, e := Commit(b.a, m, adds, removes, b.draw())
			if e != api.OK {
				t.Fatal(e)
			}
			commits++
			for client, n := range all {
				if client == who {
					continue
				}
				got, e := Process(b.a, n, commit)
				if slices.Contains(removes, n.Leaf) {
					if e != api.ErrGone {
						t.Fatal(e)
					}
					delete(all, client)
					continue
				}
				if e != api.OK || !same(got, next) || Check(b.a, got) != api.OK {
					t.Fatal(e)
				}
				all[client] = got
			}
			all[who] = next
			for k, add := range adds {
				client := ok[api.Package](t)(pack.ReadPackage(b.a, add)).Client
				got, e := Join(b.a, client, secrets[client], welcomes[k])
				if e != api.OK || !same(got, next) || Check(b.a, got) != api.OK {
					t.Fatal(e)
				}
				all[client] = got
			}
		}
	}
	if commits != 25*25 {
		t.Error(commits)
	}
}
