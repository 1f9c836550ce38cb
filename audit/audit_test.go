package audit

import (
	"math/rand"
	"testing"

	"tryst/api"
	"tryst/copies"
	"tryst/know"
	"tryst/term"
	"tryst/world"
)

func some() api.Member {
	return api.Member{
		Client: 1, Epoch: 3, Secret: 4, Init: 5, History: 6,
		Tree:   []api.Node{{Kind: api.Leaf, Client: 1, Pub: 7, Sig: 8}, {Kind: api.Parent, Pub: 9, Unmerged: []int{1}}, {Kind: api.Leaf, Client: 2, Pub: 7, Sig: 8}},
		Chains: make([]api.Ratchet, 2),
	}
}

func TestP28_1SameAgree(t *testing.T) {
	if !Same(some(), some()) || !Same(api.Member{}, api.Member{}) {
		t.Error("the same")
	}
	like := some()
	like.Client, like.Leaf, like.Sig, like.Privs = 2, 1, 9, []api.Key{{}}
	like.Chains[0].Next = 7
	like.Tree[0].Unmerged = []int{}
	if !Same(some(), like) || !Agree([]api.Member{some(), like}) {
		t.Error("what does not count counts")
	}
	for i, f := range []func(m *api.Member){
		func(m *api.Member) { m.Epoch++ }, func(m *api.Member) { m.Secret++ }, func(m *api.Member) { m.Init++ }, func(m *api.Member) { m.History++ }, func(m *api.Member) { m.Chains = m.Chains[:1] }, func(m *api.Member) { m.Tree = m.Tree[:1] },
		func(m *api.Member) { m.Tree[0].Pub++ }, func(m *api.Member) { m.Tree[0].Sig++ }, func(m *api.Member) { m.Tree[0].Client++ }, func(m *api.Member) { m.Tree[1].Kind = 0 }, func(m *api.Member) { m.Tree[1].Unmerged = nil },
	} {
		m := some()
		f(&m)
		if Same(m, some()) || Same(some(), m) {
			t.Error(i)
		}
		if Agree([]api.Member{some(), {Epoch: 9}, m}) != (m.Epoch != 3 || m.History != 6) {
			t.Error("Agree", i)
		}
	}
	if !Agree(nil) || !Agree([]api.Member{some()}) {
		t.Error("of one member")
	}
}

func TestP28_1Once(t *testing.T) {
	if !Once(nil) || !Once([]api.Reg{{Id: 1, Value: 2}, {Id: 2, Value: 2}}) || Once([]api.Reg{{Id: 1, Value: 2}, {Id: 2}, {Id: 1, Value: 2}}) {
		t.Error("Once")
	}
}

// bench is an arena with ten Atoms, and their Pubs behind them.
func bench(t *testing.T) *term.Arena {
	a := term.New()
	for i := range 10 {
		a.Make(api.Atom, i)
	}
	for i := range 10 {
		if p, e := a.Make(api.Pub, 0, i); e != api.OK || p != 10+i {
			t.Fatal(e)
		}
	}
	return a
}

// knows says that l are known.
func knows(a *term.Arena, l ...int) []bool {
	known := make([]bool, a.Len())
	for _, i := range l {
		known[i] = true
	}
	return known
}

func TestP28_2Clean(t *testing.T) {
	a := bench(t)
	tr := []api.Node{{Kind: api.Leaf, Client: 1, Pub: 11, Sig: 12}, {Kind: api.Parent, Pub: 3}, {Kind: api.Leaf, Client: 2, Pub: 13, Sig: 14}}
	for i, c := range []struct {
		known []int
		sigs  bool
		want  bool
	}{{nil, true, true}, {[]int{11, 12, 13, 14, 0, 5, 15}, true, true}, {[]int{1}, false, false}, {[]int{3}, false, false}, {[]int{2}, true, false}, {[]int{4}, true, false}, {[]int{2, 4}, false, true}} {
		if got, e := Clean(a, tr, knows(a, c.known...), c.sigs); e != api.OK || got != c.want {
			t.Error(i, got, e)
		}
	}
	change := func(x int, f func(n *api.Node)) []api.Node {
		u := copies.Tree(tr)
		f(&u[x])
		return u
	}
	for i, c := range []struct {
		t     []api.Node
		known []bool
		e     api.Errno
	}{
		{nil, nil, api.ErrTree}, {tr, nil, api.ErrLen}, {tr, make([]bool, a.Len()+1), api.ErrLen}, {change(0, func(n *api.Node) { n.Pub = 99 }), nil, api.ErrLen}, {change(0, func(n *api.Node) { n.Pub = 99 }), knows(a), api.ErrNone}, {change(2, func(n *api.Node) { n.Sig = 99 }), knows(a), api.ErrNone},
		{change(0, func(n *api.Node) { n.Pub = 1 }), knows(a), api.ErrKind}, {change(2, func(n *api.Node) { n.Sig = 4 }), knows(a), api.ErrKind}, {[]api.Node{{Kind: api.Leaf, Pub: 1, Sig: 1}, {}, {Kind: api.Leaf, Client: 1, Pub: 99}}, knows(a), api.ErrNone},
		{change(1, func(n *api.Node) { n.Pub = 99 }), knows(a), api.OK},
	} {
		got, e := Clean(a, c.t, c.known, false)
		if e != c.e || got != (e == api.OK) {
			t.Error(i, got, e)
		}
	}
}

func TestP28_2Safe(t *testing.T) {
	a := bench(t)
	m := api.Member{Secret: 1, Init: 2, Sig: 7, History: 8, Tree: []api.Node{{Kind: api.Leaf, Client: 1}, {}, {}}, Chains: []api.Ratchet{{Chain: 3, Skipped: []api.Key{{Secret: 4}, {Secret: 5}}}, {Chain: 6, Skipped: []api.Key{{Secret: 9}}}}}
	for i, c := range []struct {
		known []int
		want  bool
	}{{nil, true}, {[]int{6, 7, 8, 9, 0, 11, 12}, true}, {[]int{1}, false}, {[]int{2}, false}, {[]int{3}, false}, {[]int{4}, false}, {[]int{5}, false}} {
		if got, e := Safe(a, m, knows(a, c.known...)); e != api.OK || got != c.want {
			t.Error(i, got, e)
		}
	}
	for i, c := range []struct {
		f func(m *api.Member)
		e api.Errno
	}{
		{func(m *api.Member) { m.Secret = 99 }, api.ErrNone}, {func(m *api.Member) { m.Init = -1 }, api.ErrNone}, {func(m *api.Member) { m.Tree = nil }, api.ErrTree}, {func(m *api.Member) { m.Tree = nil; m.Secret = -1 }, api.ErrNone},
		{func(m *api.Member) { m.Chains[0].Chain = 99 }, api.ErrNone}, {func(m *api.Member) { m.Chains[0].Skipped[1].Secret = -1 }, api.ErrNone}, {func(m *api.Member) { m.Chains[1].Chain = -1 }, api.OK}, {func(m *api.Member) { m.Chains = nil }, api.OK},
	} {
		n := copies.Member(m)
		c.f(&n)
		got, e := Safe(a, n, knows(a))
		if e != c.e || got != (e == api.OK) {
			t.Error(i, got, e)
		}
		if got, e := Safe(a, n, nil); e != api.ErrLen || got {
			t.Error(i, e)
		}
	}
}

func TestP28_3Follows(t *testing.T) {
	log := func(base int, bodies ...int) []api.Log {
		return []api.Log{{Client: 0}, {Client: 2, Base: base, Bodies: bodies}}
	}
	for i, c := range []struct {
		own, other []api.Log
		client     int
		want       bool
	}{
		{log(0, 1, 2, 3), log(0, 1, 2, 3), 2, true}, {log(0, 1, 2, 3), log(0, 1, 2), 2, true}, {log(0, 1, 2, 3), log(2, 3), 2, true}, {log(0, 1, 2, 3), log(3), 2, true}, {log(0, 1, 2, 3), log(4), 2, false}, {log(0, 1, 2), log(0, 1, 2, 3), 2, false},
		{log(0, 1, 2, 3), log(0, 1, 9, 3), 2, false}, {log(0, 1, 2, 3), log(2, 9), 2, false}, {log(2, 3), log(0, 8, 9, 3), 2, true}, {log(2, 3), log(0, 8, 9, 4), 2, false}, {log(2, 3), log(0, 8), 2, true},
		{nil, log(0, 1), 2, true}, {log(0, 1), nil, 2, true}, {log(0, 1), log(0, 2), 5, true}, {log(0, 1), log(0, 2), -1, true}, {[]api.Log{{Client: 3, Bodies: []int{1}}}, []api.Log{{Client: 3, Bodies: []int{2}}}, 3, false}, {log(-1), nil, 2, false}, {nil, log(-1), 2, false}, {log(-1), log(0), 5, false},
	} {
		if got := Follows(c.own, c.other, c.client); got != c.want {
			t.Error(i, got)
		}
	}
}

// player plays random acts on a world.
type player struct {
	*world.World
	r       *rand.Rand
	clients int
}

func (p player) bools(odds int) []bool {
	l := make([]bool, 40)
	for i := range l {
		l[i] = p.r.Intn(odds) == 0
	}
	return l
}

// act does a random act, and tells its kind, if it worked.
func (p player) act(inject, reveal bool) int {
	r := p.r
	a := api.Act{Kind: api.ActRound, Client: r.Intn(p.clients), Other: r.Intn(p.clients), Body: r.Intn(100)}
	switch x := r.Intn(40); {
	case x < 16:
		a.Lost, a.Back = p.bools(8), p.bools(8)
		a.Perms = [][]int{r.Perm(p.clients), r.Perm(p.clients), r.Perm(p.clients)}
		if inject && r.Intn(2) == 0 {
			known, _ := know.All(p.Arena(), p.Told())
			for range r.Intn(12) {
				if i := r.Intn(len(known)); known[i] {
					a.Inject = append(a.Inject, i)
				}
			}
			a.Inject = append(a.Inject, p.forged(known)...)
		}
	case x < 18:
		a.Kind = api.ActOffer
	case x < 22:
		a.Kind = api.ActInvite
	case x < 23:
		a.Kind = api.ActRemove
	case x < 25:
		a.Kind = api.ActRenew
	case x < 29:
		a.Kind = api.ActSay
	case x < 33:
		a.Kind = api.ActJoin
	case x < 34:
		a.Kind, a.N, a.Keep, a.Torn = api.ActTrip, r.Intn(60), p.bools(2), r.Intn(60)-30
	case x < 37:
		a.Kind = api.ActStart
	case x < 38:
		a.Kind = api.ActAway
	case x < 39:
		a.Kind = api.ActCrash
	case reveal && r.Intn(4) == 0:
		a.Kind, a.N = api.ActReveal+r.Intn(2), r.Intn(api.Servers)
	}
	if p.Do(a) != api.OK {
		return 0
	}
	return a.Kind
}

// forged is an onion of the enemy's own, around something that it knows.
func (p player) forged(known []bool) []int {
	a := p.Arena()
	put := func(kind, n int, args ...int) int {
		i, _ := a.Make(kind, n, args...)
		return i
	}
	pick := func() int {
		for {
			if i := p.r.Intn(len(known)); known[i] {
				return i
			}
		}
	}
	inside := put(api.List, 0, put(api.Word, 71+2*p.r.Intn(2)), pick(), pick())
	for s := api.Servers - 1; s >= 0; s-- {
		w := put(api.Word, s)
		inside = put(api.Box, 0, put(api.Pub, 0, put(api.Atom, s+1)), w, inside, w)
	}
	return []int{inside}
}

// TestP28_4Worlds: what the chapter says of every world.
func TestP28_4Worlds(t *testing.T) {
	done := map[int]int{}
	safe, clean := 0, 0
	for seed := range 36 {
		inject, reveal := seed%3 > 0, seed%4 > 1
		r := rand.New(rand.NewSource(int64(seed)))
		n := 3 + r.Intn(3)
		w, e := world.New(n)
		if e != api.OK {
			t.Fatal(e)
		}
		w.Do(api.Act{Kind: api.ActCreate})
		p := player{w, r, n}
		var all []api.Member
		for range 50 {
			for range 6 {
				done[p.act(inject, reveal)]++
			}
			known, e := know.All(w.Arena(), w.Told())
			if e != api.OK {
				t.Fatal(e)
			}
			for i := range n {
				m, ok := w.Client(i).Member()
				if !ok {
					continue
				}
				all = append(all, m)
				is, e := Clean(w.Arena(), m.Tree, known, inject)
				if e != api.OK {
					t.Fatal(e)
				}
				if is {
					clean++
					is, e := Safe(w.Arena(), m, known)
					if e != api.OK || !is {
						t.Fatal(seed, "not safe", i, m.Epoch, e)
					}
					safe++
				}
			}
			if !Once(w.Mix().Regs) {
				t.Fatal("a register was written twice")
			}
			for i := range n {
				for j := range n {
					if !reveal && !Follows(w.Client(i).Logs(), w.Client(j).Logs(), i) {
						t.Fatal(seed, i, j, w.Client(i).Logs(), w.Client(j).Logs())
					}
				}
			}
		}
		if !Agree(all) {
			t.Fatal(seed, "they do not agree")
		}
	}
	for kind := api.ActRound; kind <= api.ActServer; kind++ {
		if kind != api.ActCreate && done[kind] < 5 {
			t.Error(kind, done[kind])
		}
	}
	if safe < 500 {
		t.Error(safe, clean)
	}
}
