package logs

import (
	"math/rand"
	"slices"
	"testing"

	"tryst/api"
	"tryst/copies"
)

func log(client, base int, bodies ...int) api.Log {
	return api.Log{Client: client, Base: base, Bodies: bodies}
}

func same(l, k []api.Log) bool {
	return slices.EqualFunc(l, k, func(g, h api.Log) bool {
		return g.Client == h.Client && g.Base == h.Base && slices.Equal(g.Bodies, h.Bodies)
	})
}

func bad() [][]api.Log {
	return [][]api.Log{
		{log(-1, 0)}, {log(8, 0)}, {log(1, 0), log(1, 0)}, {log(2, 0), log(1, 0)}, {log(1, -1)}, {log(1, 1<<30+1)}, {log(1, 0, -1)}, {log(1, 0, 5, api.MaxBody+1)}, {log(1, 0, make([]int, api.MaxLog+1)...)},
	}
}

func TestP25_1Check(t *testing.T) {
	for i, l := range [][]api.Log{nil, {log(0, 0), log(7, 1<<30, api.MaxBody, 0)}, {log(3, 5, make([]int, api.MaxLog)...)}} {
		if Check(l) != api.OK {
			t.Error(i)
		}
	}
	for i, l := range bad() {
		next, seq, e := Say(l, 3, 1)
		k, fresh, f := Put(l, api.Msg{Client: 3, Seq: 1, Body: 1})
		m, ok := Want(l, make([]int, 8))
		if Check(l) != api.ErrArg || e != api.ErrArg || f != api.ErrArg || fresh || ok || m != (api.Msg{}) || len(next)+seq+len(k) != 0 || !slices.Equal(Have(l), make([]int, 8)) {
			t.Error(i, e, f)
		}
	}
}

func TestP25_1HaveSay(t *testing.T) {
	l := []api.Log{log(1, 4, 9, 9), log(6, 2)}
	if !slices.Equal(Have(l), []int{0, 6, 0, 0, 0, 0, 2, 0}) || !slices.Equal(Have(nil), make([]int, 8)) {
		t.Error(Have(l))
	}
	for _, c := range []struct {
		client, body int
		next         []api.Log
		seq          int
	}{
		{1, 7, []api.Log{log(1, 4, 9, 9, 7), log(6, 2)}, 7}, {6, 0, []api.Log{log(1, 4, 9, 9), log(6, 2, 0)}, 3}, {0, api.MaxBody, []api.Log{log(0, 0, api.MaxBody), log(1, 4, 9, 9), log(6, 2)}, 1},
		{3, 1, []api.Log{log(1, 4, 9, 9), log(3, 0, 1), log(6, 2)}, 1}, {7, 1, []api.Log{log(1, 4, 9, 9), log(6, 2), log(7, 0, 1)}, 1},
	} {
		before := copies.Logs(l)
		next, seq, e := Say(l, c.client, c.body)
		if e != api.OK || seq != c.seq || !same(next, c.next) || !same(l, before) {
			t.Error(c, next, seq, e)
		}
		for i := range next {
			for j := range next[i].Bodies {
				next[i].Bodies[j] = 1
			}
		}
		if !same(l, before) {
			t.Error("memory is shared")
		}
	}
	for _, c := range [][2]int{{-1, 0}, {8, 0}, {0, -1}, {0, api.MaxBody + 1}} {
		if next, seq, e := Say(l, c[0], c[1]); e != api.ErrArg || len(next)+seq != 0 {
			t.Error(c, e)
		}
	}
	full := []api.Log{log(2, 5, make([]int, api.MaxLog)...)}
	if next, seq, e := Say(full, 2, 1); e != api.ErrLong || len(next)+seq != 0 {
		t.Error(e)
	}
	room := log(2, 5, 1, 2, 3)
	room.Bodies = append(room.Bodies, 77)[:3]
	Say([]api.Log{room}, 2, 8)
	if room.Bodies[:4][3] != 77 {
		t.Error("the spare room was changed")
	}
}

func TestP25_2Put(t *testing.T) {
	l := []api.Log{log(1, 4, 9, 8), log(6, 2)}
	full := []api.Log{log(2, 5, make([]int, api.MaxLog)...)}
	for i, c := range []struct {
		l     []api.Log
		m     api.Msg
		next  []api.Log
		fresh bool
		e     api.Errno
	}{
		{l, api.Msg{Client: 1, Seq: 7, Body: 3}, []api.Log{log(1, 4, 9, 8, 3), log(6, 2)}, true, api.OK}, {l, api.Msg{Client: 0, Seq: 1, Body: 3}, []api.Log{log(0, 0, 3), log(1, 4, 9, 8), log(6, 2)}, true, api.OK},
		{l, api.Msg{Client: 1, Seq: 6, Body: 3}, l, false, api.OK}, {l, api.Msg{Client: 1, Seq: 1, Body: 3}, l, false, api.OK}, {l, api.Msg{Client: 6, Seq: 2, Body: 3}, l, false, api.OK},
		{l, api.Msg{Client: 1, Seq: 8}, nil, false, api.ErrSkip}, {l, api.Msg{Client: 0, Seq: 2}, nil, false, api.ErrSkip}, {l, api.Msg{Client: 6, Seq: 1<<63 - 1}, nil, false, api.ErrSkip},
		{l, api.Msg{Client: 1, Seq: 0}, nil, false, api.ErrArg}, {l, api.Msg{Client: 1, Seq: -4}, nil, false, api.ErrArg}, {l, api.Msg{Client: -1, Seq: 1}, nil, false, api.ErrArg}, {l, api.Msg{Client: 8, Seq: 1}, nil, false, api.ErrArg},
		{l, api.Msg{Client: 1, Seq: 1, Body: -1}, nil, false, api.ErrArg}, {l, api.Msg{Client: 1, Seq: 9, Body: api.MaxBody + 1}, nil, false, api.ErrArg},
		{full, api.Msg{Client: 2, Seq: 38}, nil, false, api.ErrLong}, {full, api.Msg{Client: 2, Seq: 39}, nil, false, api.ErrSkip}, {full, api.Msg{Client: 2, Seq: 37}, full, false, api.OK},
	} {
		next, fresh, e := Put(c.l, c.m)
		if e != c.e || fresh != c.fresh || !same(next, c.next) {
			t.Error(i, next, fresh, e)
		}
	}
	next, _, _ := Put(l, api.Msg{Client: 1, Seq: 6})
	next[0].Bodies[0] = 1
	if l[0].Bodies[0] != 9 {
		t.Error("memory is shared")
	}
}

func TestP25_2WantFrom(t *testing.T) {
	l := []api.Log{log(1, 4, 9, 8), log(2, 0), log(6, 0, 5, 6, 7)}
	have := func(m map[int]int) []int {
		h := make([]int, 8)
		for i, n := range m {
			h[i] = n
		}
		return h
	}
	for i, c := range []struct {
		have []int
		m    api.Msg
		ok   bool
	}{
		{have(nil), api.Msg{Client: 6, Seq: 1, Body: 5}, true}, {have(map[int]int{1: 4}), api.Msg{Client: 1, Seq: 5, Body: 9}, true}, {have(map[int]int{1: 5}), api.Msg{Client: 1, Seq: 6, Body: 8}, true}, {have(map[int]int{1: 6, 6: 1}), api.Msg{Client: 6, Seq: 2, Body: 6}, true},
		{have(map[int]int{1: 3, 6: 2}), api.Msg{Client: 6, Seq: 3, Body: 7}, true}, {have(map[int]int{1: 6, 6: 3}), api.Msg{}, false}, {have(map[int]int{1: 7, 6: 1 << 62}), api.Msg{}, false}, {have(map[int]int{1: 9, 6: -1}), api.Msg{}, false},
		{nil, api.Msg{}, false}, {make([]int, 7), api.Msg{}, false}, {make([]int, 9), api.Msg{}, false},
	} {
		m, ok := Want(l, c.have)
		if ok != c.ok || m != c.m {
			t.Error(i, m, ok)
		}
	}
	if m, ok := Want([]api.Log{log(0, 0, 1, 2, 3)}, []int{1, 0, 0, 0, 0, 0, 0, 0}); !ok || m != (api.Msg{Client: 0, Seq: 2, Body: 2}) {
		t.Error(m, ok)
	}
	got, e := From([]int{0, 1, 2, 3, 4, 5, 6, 1 << 30})
	want := []api.Log{log(0, 0), log(1, 1), log(2, 2), log(3, 3), log(4, 4), log(5, 5), log(6, 6), log(7, 1<<30)}
	if e != api.OK || !same(got, want) {
		t.Error(got, e)
	}
	for _, h := range [][]int{nil, make([]int, 7), make([]int, 9), have(map[int]int{3: -1}), have(map[int]int{3: 1<<30 + 1})} {
		if l, e := From(h); e != api.ErrArg || len(l) != 0 {
			t.Error(h, e)
		}
	}
}

// TestP25_3All: whoever is told what it wants, again and again, has all in the end, and what was there stays.
func TestP25_3All(t *testing.T) {
	r := rand.New(rand.NewSource(25))
	for range 100 {
		var full []api.Log
		for range 40 {
			if next, _, e := Say(full, r.Intn(8), r.Intn(100)); e == api.OK {
				full = next
			}
		}
		had := Have(full)
		for i := range had {
			had[i] = r.Intn(had[i] + 1)
		}
		own, e := From(had)
		if e != api.OK {
			t.Fatal(e)
		}
		steps := 0
		for {
			m, ok := Want(full, Have(own))
			if !ok {
				break
			}
			next, fresh, e := Put(own, m)
			if e != api.OK || !fresh || Have(next)[m.Client] != m.Seq || Check(next) != api.OK {
				t.Fatal(m, fresh, e)
			}
			for i, g := range own {
				if next[i].Base != g.Base || !slices.Equal(next[i].Bodies[:len(g.Bodies)], g.Bodies) {
					t.Fatal("what was there is gone")
				}
			}
			own = next
			steps++
		}
		if !slices.Equal(Have(own), Have(full)) || steps > 40 {
			t.Fatal("not all")
		}
		for _, g := range full {
			part := own[g.Client]
			if !slices.Equal(part.Bodies, g.Bodies[part.Base:]) {
				t.Fatal("others")
			}
		}
	}
}
