package pack

import (
	"math/rand"
	"reflect"
	"slices"
	"testing"

	"tryst/api"
	"tryst/term"
)

// bench is an arena of ten Atoms.
type bench struct {
	t *testing.T
	a *term.Arena
}

func newBench(t *testing.T) bench {
	b := bench{t, term.New()}
	for i := range 10 {
		b.put(api.Atom, i)
	}
	return b
}

func (b bench) put(kind, n int, args ...int) int {
	b.t.Helper()
	i, e := b.a.Make(kind, n, args...)
	if e != api.OK {
		b.t.Fatal(kind, n, args, e)
	}
	return i
}

func (b bench) word(n int) int { return b.put(api.Word, n) }

func (b bench) list(l ...int) int { return b.put(api.List, 0, l...) }

func TestP20_1Package(t *testing.T) {
	b := newBench(t)
	p, e := Package(b.a, 7, 3)
	kdf := func(n int) int { return b.put(api.Kdf, n, 3) }
	pub := func(n int) int { return b.put(api.Pub, 0, kdf(n)) }
	want := api.Package{Client: 7, Init: pub(11), Pub: pub(12), Sig: pub(13), Term: b.put(api.Sig, 0, kdf(13), b.word(7), pub(11), pub(12), pub(13))}
	if e != api.OK || p != want {
		t.Error(p, want, e)
	}
	back, e := ReadPackage(b.a, p.Term)
	if e != api.OK || back != want {
		t.Error(back, e)
	}
	for _, c := range []struct {
		client, secret int
		e              api.Errno
	}{{-1, -1, api.ErrArg}, {8, 3, api.ErrArg}, {0, -1, api.ErrNone}, {0, 1 << 40, api.ErrNone}} {
		if p, e := Package(b.a, c.client, c.secret); e != c.e || p != (api.Package{}) {
			t.Error(c, e)
		}
	}
}

func TestP20_1ReadPackage(t *testing.T) {
	b := newBench(t)
	pub := func(i int) int { return b.put(api.Pub, 0, i) }
	sig := func(l ...int) int { return b.put(api.Sig, 0, l...) }
	w := b.word(2)
	for i, c := range []struct {
		term int
		e    api.Errno
	}{
		{sig(1, w, pub(4), pub(5), pub(1)), api.OK}, {-1, api.ErrNone}, {1 << 40, api.ErrNone},
		{w, api.ErrKind}, {sig(1), api.ErrKind}, {sig(1, w, pub(4), pub(5)), api.ErrKind}, {sig(1, w, pub(4), pub(5), pub(1), w), api.ErrKind}, {b.put(api.Seal, 0, 1, w, pub(4), pub(5), pub(1)), api.ErrKind},
		{sig(1, b.word(8), pub(4), pub(5), pub(1)), api.ErrKind}, {sig(1, b.word(1<<50), pub(4), pub(5), pub(1)), api.ErrKind}, {sig(1, 2, pub(4), pub(5), pub(1)), api.ErrKind},
		{sig(1, w, 4, pub(5), pub(1)), api.ErrKind}, {sig(1, w, pub(4), 5, pub(1)), api.ErrKind}, {sig(1, w, pub(4), pub(5), 1), api.ErrKind},
		{sig(2, w, pub(4), pub(5), pub(1)), api.ErrSign}, {sig(5, w, pub(4), pub(5), pub(1)), api.ErrSign},
	} {
		p, e := ReadPackage(b.a, c.term)
		if e != c.e || e != api.OK && p != (api.Package{}) {
			t.Error(i, p, e)
		}
		if e == api.OK && p != (api.Package{Client: 2, Init: pub(4), Pub: pub(5), Sig: pub(1), Term: c.term}) {
			t.Error(p)
		}
	}
}

func some() api.Commit {
	return api.Commit{Epoch: 5, From: 3, Adds: []int{1, 2}, Removes: []int{4, 0}, Pub: 6, Steps: []api.Step{{Node: 1, Pub: 2, Boxes: []int{3, 3}}, {Node: 1 << 40, Pub: 4}}, Tag: 7}
}

func TestP20_2Body(t *testing.T) {
	b := newBench(t)
	w := b.word
	got, e := Body(b.a, some())
	steps := b.list(b.list(w(1), 2, b.list(3, 3)), b.list(w(1<<40), 4, b.list()))
	want := b.list(w(31), w(5), w(3), b.list(1, 2), b.list(w(4), w(0)), 6, steps)
	if e != api.OK || got != want {
		t.Error(got, want, e)
	}
	term, e := Commit(b.a, 9, some())
	if e != api.OK || term != b.put(api.Sig, 0, 9, want, 7) {
		t.Error(term, e)
	}
	long := make([]int, api.MaxArgs+1)
	for i, c := range []struct {
		f func(c *api.Commit)
		e api.Errno
	}{
		{func(c *api.Commit) { c.Epoch = -1 }, api.ErrArg}, {func(c *api.Commit) { c.From = -1 }, api.ErrArg}, {func(c *api.Commit) { c.From = 8 }, api.ErrArg},
		{func(c *api.Commit) { c.Removes[1] = -1; c.Adds = long }, api.ErrArg}, {func(c *api.Commit) { c.Steps[1].Node = -1; c.Pub = -1 }, api.ErrArg},
		{func(c *api.Commit) { c.Adds = long; c.Pub = -1 }, api.ErrLen}, {func(c *api.Commit) { c.Removes = long }, api.ErrLen}, {func(c *api.Commit) { c.Steps = make([]api.Step, api.MaxArgs+1) }, api.ErrLen},
		{func(c *api.Commit) { c.Steps[0].Boxes = long }, api.ErrLen}, {func(c *api.Commit) { c.Steps[1].Boxes = long[:api.MaxArgs] }, api.OK}, {func(c *api.Commit) { c.Removes = long[:api.MaxArgs] }, api.OK},
		{func(c *api.Commit) { c.Adds[0] = -1 }, api.ErrNone}, {func(c *api.Commit) { c.Pub = 1 << 40 }, api.ErrNone}, {func(c *api.Commit) { c.Steps[0].Pub = -1 }, api.ErrNone}, {func(c *api.Commit) { c.Steps[0].Boxes[1] = 1 << 40 }, api.ErrNone},
		{func(c *api.Commit) { c.Epoch = 1 << 60 }, api.OK},
		{func(c *api.Commit) { c.Adds = long[:api.MaxArgs] }, api.OK}, {func(c *api.Commit) { c.Steps = make([]api.Step, api.MaxArgs) }, api.OK},
	} {
		d := some()
		c.f(&d)
		i1, e := Body(b.a, d)
		i2, f := Commit(b.a, 9, d)
		if e != c.e || f != c.e || e != api.OK && i1+i2 != 0 {
			t.Error(i, e, f)
		}
	}
	c := some()
	c.Tag = -1
	if i, e := Body(b.a, c); e != api.OK || i != want {
		t.Error("Tag counts", e)
	}
	if i, e := Commit(b.a, 9, c); e != api.ErrNone || i != 0 {
		t.Error(e)
	}
	if i, e := Commit(b.a, -1, some()); e != api.ErrNone || i != 0 {
		t.Error(e)
	}
	c.Epoch = -1
	if _, e := Commit(b.a, -1, c); e != api.ErrArg {
		t.Error(e)
	}
}

func TestP20_3ReadCommit(t *testing.T) {
	b := newBench(t)
	w := b.word
	sig := func(l ...int) int { return b.put(api.Sig, 0, l...) }
	none := b.list()
	body := func(at, x int) int {
		l := []int{w(31), w(5), w(3), b.list(1, 2), b.list(w(4), w(0)), 6, b.list(b.list(w(1), 2, b.list(3)))}
		if at >= 0 {
			l[at] = x
		}
		return b.list(l...)
	}
	short := b.list(w(31), w(5), w(3), none, none, 6)
	long := b.list(w(31), w(5), w(3), none, none, 6, none, none)
	hash := b.put(api.Hash, 0, w(31), w(5), w(3), none, none, 6, none)
	c, signer, e := ReadCommit(b.a, sig(9, body(-1, 0), 7))
	want := api.Commit{Epoch: 5, From: 3, Adds: []int{1, 2}, Removes: []int{4, 0}, Pub: 6, Steps: []api.Step{{Node: 1, Pub: 2, Boxes: []int{3}}}, Tag: 7}
	if e != api.OK || !reflect.DeepEqual(c, want) || signer != b.put(api.Pub, 0, 9) {
		t.Error(c, signer, e)
	}
	bad := []int{w(31), sig(9, body(-1, 0)), sig(9, body(-1, 0), 7, 7), sig(9), sig(9, short, 7), sig(9, long, 7), sig(9, hash, 7), sig(9, 7, body(-1, 0)), b.put(api.Seal, 0, 9, body(-1, 0), 7)}
	for _, x := range [][2]int{
		{0, w(32)}, {0, 1}, {1, 1}, {2, 1}, {2, w(8)}, {2, w(1 << 40)}, {3, w(1)}, {3, 1}, {4, w(1)}, {4, b.list(1)}, {4, b.list(w(1), none)}, {4, 1}, {6, 1}, {6, w(0)}, {6, b.list(1)}, {6, b.list(none)},
		{6, b.list(b.list(w(1), 2))}, {6, b.list(b.list(w(1), 2, none, none))}, {6, b.list(b.list(1, 2, none))}, {6, b.list(b.list(w(1), 2, 3))}, {6, b.put(api.Hash, 0)},
	} {
		bad = append(bad, sig(9, body(x[0], x[1]), 7))
	}
	for i, x := range bad {
		if c, signer, e := ReadCommit(b.a, x); e != api.ErrKind || signer != 0 || !reflect.DeepEqual(c, api.Commit{}) {
			t.Error(i, e)
		}
	}
	for _, x := range []int{-1, 1 << 40} {
		if c, signer, e := ReadCommit(b.a, x); e != api.ErrNone || signer != 0 || !reflect.DeepEqual(c, api.Commit{}) {
			t.Error(x, e)
		}
	}
}

func TestP20_3Full(t *testing.T) {
	b := newBench(t)
	i, _ := Commit(b.a, 9, some())
	for n := 0; b.a.Len() < api.MaxTerms; n++ {
		b.a.Make(api.Word, n)
	}
	if _, _, e := ReadCommit(b.a, i); e != api.ErrFull {
		t.Error(e)
	}
	if _, e := Package(b.a, 1, 1); e != api.ErrFull {
		t.Error(e)
	}
	c := some()
	c.Epoch = 1 << 50
	if _, e := Body(b.a, c); e != api.ErrFull {
		t.Error(e)
	}
}

func same(c, d api.Commit) bool {
	return c.Epoch == d.Epoch && c.From == d.From && slices.Equal(c.Adds, d.Adds) && slices.Equal(c.Removes, d.Removes) && c.Pub == d.Pub && c.Tag == d.Tag &&
		slices.EqualFunc(c.Steps, d.Steps, func(s, u api.Step) bool { return s.Node == u.Node && s.Pub == u.Pub && slices.Equal(s.Boxes, u.Boxes) })
}

func TestP20_4Back(t *testing.T) {
	r := rand.New(rand.NewSource(20))
	b := newBench(t)
	few := func() []int {
		var l []int
		for range r.Intn(3) {
			l = append(l, r.Intn(3))
		}
		return l
	}
	bodies := map[int]api.Commit{}
	for range 3000 {
		c := api.Commit{Epoch: r.Intn(2), From: r.Intn(2), Adds: few(), Removes: few(), Pub: r.Intn(2), Tag: r.Intn(3)}
		for range r.Intn(3) {
			c.Steps = append(c.Steps, api.Step{Node: r.Intn(2), Pub: r.Intn(2), Boxes: few()})
		}
		i, e := Commit(b.a, r.Intn(10), c)
		d, _, f := ReadCommit(b.a, i)
		if e != api.OK || f != api.OK || !same(c, d) {
			t.Fatal(c, d, e, f)
		}
		x, _ := Body(b.a, c)
		if y, _ := Body(b.a, d); x != y {
			t.Fatal("another body")
		}
		c.Tag = 0
		if old, ok := bodies[x]; ok && !same(old, c) {
			t.Fatal("unlike commits have one body")
		}
		bodies[x] = c
	}
	for client := range 8 {
		for s := range 10 {
			p, _ := Package(b.a, client, s)
			if q, e := ReadPackage(b.a, p.Term); e != api.OK || p != q {
				t.Error(p, q, e)
			}
		}
	}
}
