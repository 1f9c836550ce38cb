package mix

import (
	"math/rand"
	"reflect"
	"slices"
	"testing"

	"tryst/api"
	"tryst/copies"
	"tryst/onion"
	"tryst/term"
)

// bench is an arena with servers' secrets (the nodes 0 to 2), more Atoms, and the servers' Pubs.
type bench struct {
	t       *testing.T
	a       *term.Arena
	secrets []int
	pubs    []int
	draws   int
}

func newBench(t *testing.T) *bench {
	b := &bench{t: t, a: term.New(), secrets: []int{0, 1, 2}, draws: 1000}
	for i := range 20 {
		b.put(api.Atom, i)
	}
	for s := range api.Servers {
		b.pubs = append(b.pubs, b.put(api.Pub, 0, s))
	}
	return b
}

func (b *bench) put(kind, n int, args ...int) int {
	b.t.Helper()
	i, e := b.a.Make(kind, n, args...)
	if e != api.OK {
		b.t.Fatal(kind, n, args, e)
	}
	return i
}

func (b *bench) list(word int, l ...int) int {
	return b.put(api.List, 0, append([]int{b.put(api.Word, word)}, l...)...)
}

// wrap wraps a payload, and tells the keys of the answer.
func (b *bench) wrap(payload int) (int, []int) {
	b.draws++
	o, keys, e := onion.Wrap(b.a, b.pubs, b.put(api.Atom, b.draws), payload)
	if e != api.OK {
		b.t.Fatal(e)
	}
	return o, keys
}

func TestP24_1Do(t *testing.T) {
	b := newBench(t)
	w0 := b.put(api.Word, 0)
	r, s := 3, 4
	for i, c := range []struct {
		regs []api.Reg
		l    []int
		next []api.Reg
		out  []int
	}{
		{nil, nil, nil, nil},
		{nil, []int{b.list(72, r), b.list(71, r, 5), b.list(71, r, 6), b.list(72, r), b.list(71, s, 7), b.list(72, s)}, []api.Reg{{Id: r, Value: 5}, {Id: s, Value: 7}}, []int{w0, 5, 5, 5, 7, 7}},
		{[]api.Reg{{Id: r, Value: 9}}, []int{b.list(71, r, 5), b.list(72, r), b.list(72, s)}, []api.Reg{{Id: r, Value: 9}}, []int{9, 9, w0}},
		{[]api.Reg{{Id: r, Value: 9}, {Id: r, Value: 8}}, []int{b.list(72, r)}, []api.Reg{{Id: r, Value: 9}, {Id: r, Value: 8}}, []int{9}},
		{nil, []int{b.list(73, r, 5), b.list(73, r, 6)}, nil, []int{6, 5}},
		{nil, []int{b.list(73, r, 5), b.list(73, s, 6)}, nil, []int{w0, w0}},
		{nil, []int{b.list(73, r, 5), b.list(73, r, 6), b.list(73, r, 7), b.list(73, s, 8), b.list(73, s, 9)}, nil, []int{w0, w0, w0, 9, 8}},
		{nil, []int{b.list(73, r, 5), b.list(73, r, 5)}, nil, []int{5, 5}},
		{nil, []int{b.list(73, r, 5)}, nil, []int{w0}},
		{nil, []int{b.list(70), b.list(71, r), b.list(71, r, 5, 6), b.list(72), b.list(72, r, 5), b.list(73, r), b.list(73, r, 5, 5), b.list(74, r, 5), r, w0, b.put(api.List, 0), b.put(api.List, 0, r, r, 5), b.put(api.Hash, 0, b.put(api.Word, 71), r, 5)}, nil, slices.Repeat([]int{w0}, 13)},
		{nil, []int{b.list(73, r, 5), b.list(71, r, 6), b.list(73, r, 7)}, []api.Reg{{Id: r, Value: 6}}, []int{7, 6, 5}},
	} {
		regs := append(slices.Clone(c.regs), api.Reg{Id: 1, Value: 1})[:len(c.regs)]
		next, out, e := Do(b.a, regs, c.l)
		if e != api.OK || !slices.Equal(next, c.next) || !slices.Equal(out, c.out) || regs[:len(c.regs)+1][len(c.regs)].Id != 1 {
			t.Error(i, next, out, e)
		}
		for j := range next {
			next[j] = api.Reg{}
		}
		if !slices.Equal(regs, c.regs) {
			t.Error(i, "changed")
		}
	}
	over := slices.Repeat([]int{3}, 101)
	for i, c := range []struct {
		regs []api.Reg
		l    []int
		e    api.Errno
	}{{nil, over, api.ErrLen}, {[]api.Reg{{Id: -1}}, over, api.ErrNone}, {[]api.Reg{{Id: 1, Value: 1 << 40}}, nil, api.ErrNone}, {nil, []int{3, -1}, api.ErrNone}, {nil, append(over, 1<<40), api.ErrNone}, {nil, over[:100], api.OK}} {
		next, out, e := Do(b.a, c.regs, c.l)
		if e != c.e || e != api.OK && len(next)+len(out) != 0 {
			t.Error(i, e)
		}
	}
}

func TestP24_2Round(t *testing.T) {
	b := newBench(t)
	w0 := b.put(api.Word, 0)
	o, keys := b.wrap(b.list(71, 3, 5))
	p, others := b.wrap(b.list(72, 3))
	old, _ := b.wrap(b.list(72, 3))
	first, _, _ := onion.Peel(b.a, 0, o)
	second, _, _ := onion.Peel(b.a, 1, first)
	pInner, _, _ := onion.Peel(b.a, 0, p)
	pSecond, _, _ := onion.Peel(b.a, 1, pInner)
	st := api.Mix{Regs: []api.Reg{{Id: 9, Value: 9}}, Seen: [api.Servers][]int{{old}, {7}, nil}}
	before := copies.Mix(st)
	seal := func(keys []int, x int) int {
		for s := api.Servers - 1; s >= 0; s-- {
			x = b.put(api.Seal, 0, keys[s], x)
		}
		return x
	}
	// old was seen ahead, o comes twice, 6 is no onion
	in := []int{old, o, 6, p, o}
	same := []int{0, 1, 2, 3, 4}
	next, out, e := Round(b.a, st, b.secrets, in, [][]int{same, same, same})
	if e != api.OK || !slices.Equal(out, []int{w0, seal(keys, 5), w0, seal(others, 5), w0}) || !reflect.DeepEqual(st, before) {
		t.Fatal(out, e)
	}
	if !slices.Equal(next.Regs, []api.Reg{{Id: 9, Value: 9}, {Id: 3, Value: 5}}) || !slices.Equal(next.Seen[0], []int{old, o, p}) || !slices.Equal(next.Seen[1], []int{7, first, pInner}) || !slices.Equal(next.Seen[2], []int{second, pSecond}) {
		t.Error(next)
	}
	// turned about, the read comes ahead of the write at the last server
	next, out, e = Round(b.a, st, b.secrets, in, [][]int{{4, 3, 2, 1, 0}, same, same})
	if e != api.OK || !slices.Equal(out, []int{w0, seal(keys, 5), w0, seal(others, w0), w0}) || !slices.Equal(next.Seen[0], []int{old, o, p}) || !slices.Equal(next.Seen[1], []int{7, pInner, first}) {
		t.Error(out, next, e)
	}
	// what the second server has seen fails there: its seal is around Word 0
	st.Seen[1] = []int{pInner}
	_, out, e = Round(b.a, st, b.secrets, in, [][]int{same, same, same})
	if e != api.OK || out[3] != b.put(api.Seal, 0, others[0], w0) {
		t.Error(out, e)
	}
}

func TestP24_2Errors(t *testing.T) {
	b := newBench(t)
	over := slices.Repeat([]int{3}, 101)
	perms := [][]int{{0}, {0}, {0}}
	for i, c := range []struct {
		st          api.Mix
		secrets, in []int
		perms       [][]int
		e           api.Errno
	}{
		{api.Mix{}, b.secrets, nil, make([][]int, 3), api.OK}, {api.Mix{}, b.secrets, over[:100], [][]int{count(100), count(100), count(100)}, api.OK}, {api.Mix{}, b.secrets, over, [][]int{count(101), count(101), count(101)}, api.ErrLen}, {api.Mix{}, b.secrets, []int{3}, perms, api.OK},
		{api.Mix{}, b.secrets[:2], []int{-1}, perms, api.ErrLen}, {api.Mix{}, b.secrets, []int{-1}, perms[:2], api.ErrLen}, {api.Mix{}, b.secrets, []int{3}, append(perms, perms[0]), api.ErrLen}, {api.Mix{}, b.secrets, over, perms, api.ErrLen},
		{api.Mix{}, b.secrets, []int{-1}, [][]int{{0}, {1}, {0}}, api.ErrArg}, {api.Mix{}, b.secrets, []int{3}, [][]int{{0}, {0}, {-1}}, api.ErrArg}, {api.Mix{}, b.secrets, []int{3}, [][]int{{0}, nil, {0}}, api.ErrArg},
		{api.Mix{}, b.secrets, []int{3}, [][]int{{0}, {0, 1}, {0}}, api.ErrArg}, {api.Mix{}, b.secrets, []int{3, 4}, [][]int{{0, 1}, {0, 0}, {1, 0}}, api.ErrArg}, {api.Mix{}, b.secrets, nil, perms, api.ErrArg},
		{api.Mix{}, b.secrets, []int{-1}, perms, api.ErrNone}, {api.Mix{}, []int{0, 1, 1 << 40}, []int{3}, perms, api.ErrNone}, {api.Mix{Regs: []api.Reg{{Id: -1}}}, b.secrets, []int{3}, perms, api.ErrNone},
		{api.Mix{Seen: [api.Servers][]int{nil, nil, {1 << 40}}}, b.secrets, []int{3}, perms, api.ErrNone},
	} {
		next, out, e := Round(b.a, c.st, c.secrets, c.in, c.perms)
		if e != c.e || e != api.OK && (len(out) != 0 || !reflect.DeepEqual(next, api.Mix{})) {
			t.Error(i, e)
		}
	}
}

// count is the numbers from 0 up to n - 1.
func count(n int) []int {
	var out []int
	for i := range n {
		out = append(out, i)
	}
	return out
}

// TestP24_3 runs rounds of random requests: permutations change nothing but the order in which they are done.
func TestP24_3Random(t *testing.T) {
	r := rand.New(rand.NewSource(24))
	b := newBench(t)
	st := api.Mix{}
	var olds []int
	values := map[int]int{}
	for range 150 {
		var in []int
		var keys [][]int
		var about []int // the register, or -1
		for range r.Intn(9) {
			if len(olds) > 0 && r.Intn(6) == 0 {
				in, keys, about = append(in, olds[r.Intn(len(olds))]), append(keys, nil), append(about, -1)
				continue
			}
			reg := 3 + r.Intn(8)
			o, k := b.wrap(b.list(71, reg, r.Intn(20)))
			in, keys, about = append(in, o), append(keys, k), append(about, reg)
		}
		perms := [][]int{r.Perm(len(in)), r.Perm(len(in)), r.Perm(len(in))}
		next, out, e := Round(b.a, st, b.secrets, in, perms)
		if e != api.OK || len(out) != len(in) {
			t.Fatal(e)
		}
		for _, reg := range next.Regs {
			if old, ok := values[reg.Id]; ok && old != reg.Value {
				t.Fatal("a register's value changed")
			}
			values[reg.Id] = reg.Value
		}
		if !slices.Equal(next.Regs[:len(st.Regs)], st.Regs) {
			t.Fatal("registers moved")
		}
		for i, reg := range about {
			if reg < 0 {
				if n, _ := b.a.Node(out[i]); n.Kind != api.Word || n.N != 0 {
					t.Fatal("what was seen is done again")
				}
				continue
			}
			if x, e := onion.Read(b.a, keys[i], out[i]); e != api.OK || x != values[reg] {
				t.Fatal("another one's answer", e)
			}
		}
		st, olds = next, append(olds, in...)
	}
}
