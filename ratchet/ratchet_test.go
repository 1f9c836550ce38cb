package ratchet

import (
	"math/rand"
	"slices"
	"testing"

	"tryst/api"
	"tryst/term"
)

func newArena() *term.Arena {
	a := term.New()
	for i := range 40 {
		a.Make(api.Atom, i)
	}
	return a
}

// keyOf is the key n of a chain, by the chapter's words.
func keyOf(a *term.Arena, chain, n int) int {
	for range n {
		chain, _ = a.Make(api.Kdf, 2, chain)
	}
	key, _ := a.Make(api.Kdf, 1, chain)
	return key
}

func chainOf(a *term.Arena, chain, n int) int {
	for range n {
		chain, _ = a.Make(api.Kdf, 2, chain)
	}
	return chain
}

func equal(r, s api.Ratchet) bool {
	return r.Chain == s.Chain && r.Next == s.Next && slices.Equal(r.Skipped, s.Skipped)
}

func keys(l ...int) []api.Key {
	var out []api.Key
	for _, n := range l {
		out = append(out, api.Key{N: n, Secret: 0})
	}
	return out
}

func TestP19_1(t *testing.T) {
	if !equal(New(7), api.Ratchet{Chain: 7}) || !equal(New(-3), api.Ratchet{Chain: -3}) {
		t.Error("New")
	}
	most := []int{}
	for i := range api.MaxSkip + 1 {
		most = append(most, i)
	}
	for i, c := range []struct {
		r api.Ratchet
		e api.Errno
	}{
		{api.Ratchet{}, api.OK}, {api.Ratchet{Chain: -9, Next: 1 << 30}, api.OK}, {api.Ratchet{Next: 20, Skipped: keys(most[:api.MaxSkip]...)}, api.OK}, {api.Ratchet{Next: 3, Skipped: keys(0, 2)}, api.OK},
		{api.Ratchet{Next: -1}, api.ErrArg}, {api.Ratchet{Next: 1<<30 + 1}, api.ErrArg}, {api.Ratchet{Next: 20, Skipped: keys(most...)}, api.ErrArg},
		{api.Ratchet{Next: 3, Skipped: keys(0, 3)}, api.ErrArg}, {api.Ratchet{Next: 3, Skipped: keys(-1, 2)}, api.ErrArg}, {api.Ratchet{Next: 3, Skipped: keys(1, 1)}, api.ErrArg}, {api.Ratchet{Next: 3, Skipped: keys(2, 0)}, api.ErrArg},
	} {
		if Check(c.r) != c.e {
			t.Error(i)
		}
		if c.e == api.OK {
			continue
		}
		a := newArena()
		key, s, e := Take(a, c.r, -1)
		k, n, u, f := Send(a, c.r)
		if e != api.ErrArg || f != api.ErrArg || key+k+n != 0 || !equal(s, api.Ratchet{}) || !equal(u, api.Ratchet{}) {
			t.Error(i, e, f)
		}
	}
}

func TestP19_2Take(t *testing.T) {
	a := newArena()
	key, s, e := Take(a, New(5), 2)
	if e != api.OK || key != keyOf(a, 5, 2) || !equal(s, api.Ratchet{Chain: chainOf(a, 5, 3), Next: 3, Skipped: []api.Key{{N: 0, Secret: keyOf(a, 5, 0)}, {N: 1, Secret: keyOf(a, 5, 1)}}}) {
		t.Error(key, s, e)
	}
	before := slices.Clone(s.Skipped)
	key, u, e := Take(a, s, 0)
	if e != api.OK || key != keyOf(a, 5, 0) || !equal(u, api.Ratchet{Chain: s.Chain, Next: 3, Skipped: s.Skipped[1:]}) || !slices.Equal(before, s.Skipped) {
		t.Error(key, u, e)
	}
	if key, v, e := Take(a, u, 0); e != api.ErrOld || key != 0 || !equal(v, api.Ratchet{}) {
		t.Error(e)
	}
	if _, _, e := Take(a, u, 2); e != api.ErrOld {
		t.Error(e)
	}
	key, v, e := Take(a, u, 3+api.MaxJump)
	if e != api.OK || key != keyOf(a, 5, 203) || v.Next != 204 || len(v.Skipped) != api.MaxSkip || v.Skipped[0].N != 203-16 || v.Skipped[15] != (api.Key{N: 202, Secret: keyOf(a, 5, 202)}) || v.Chain != chainOf(a, 5, 204) {
		t.Error(v, e)
	}
	if _, _, e := Take(a, u, 4+api.MaxJump); e != api.ErrSkip {
		t.Error(e)
	}
	// what was skipped goes, the first ones first
	key, v, e = Take(a, u, 3+15)
	if e != api.OK || len(v.Skipped) != 16 || v.Skipped[0].N != 1 || v.Skipped[1].N != 3 {
		t.Error(v, e)
	}
	key, v, e = Take(a, v, 20)
	if e != api.OK || len(v.Skipped) != 16 || v.Skipped[0].N != 3 || v.Skipped[15].N != 19 || key != keyOf(a, 5, 20) {
		t.Error(v, e)
	}
	room := append(slices.Clone(u.Skipped), api.Key{N: 77})
	ahead := u
	ahead.Skipped = room[:len(u.Skipped)]
	Take(a, ahead, 9)
	if room[len(u.Skipped)].N != 77 {
		t.Error("the spare room was changed")
	}
	full := api.Ratchet{Chain: 5, Next: 3, Skipped: slices.Clone(before)}
	Take(a, full, 0)
	if !slices.Equal(full.Skipped, before) {
		t.Error("what was handed in is changed")
	}
	for i := range v.Skipped {
		v.Skipped[i] = api.Key{}
	}
	if len(u.Skipped) != 1 || u.Skipped[0].N != 1 {
		t.Error("memory is shared")
	}
}

func TestP19_2Errors(t *testing.T) {
	a := newArena()
	for i, c := range []struct {
		r api.Ratchet
		n int
		e api.Errno
	}{
		{api.Ratchet{Chain: -1}, -1, api.ErrNone}, {api.Ratchet{Chain: 40}, 0, api.ErrNone}, {api.Ratchet{Next: 3, Skipped: []api.Key{{N: 1, Secret: 40}}}, -1, api.ErrNone},
		{New(1), -1, api.ErrArg}, {New(1), 1 << 30, api.ErrArg}, {New(1), 1 << 62, api.ErrArg}, {api.Ratchet{Chain: 1, Next: 1 << 30}, 1 << 30, api.ErrArg},
		{api.Ratchet{Chain: 1, Next: 1 << 30}, 1<<30 - 1, api.ErrOld}, {New(1), 201, api.ErrSkip}, {New(1), 1<<30 - 1, api.ErrSkip},
	} {
		if key, s, e := Take(a, c.r, c.n); e != c.e || key != 0 || !equal(s, api.Ratchet{}) {
			t.Error(i, e)
		}
	}
	key, s, e := Take(a, api.Ratchet{Chain: 1, Next: 1<<30 - 1}, 1<<30-1)
	if e != api.OK || s.Next != 1<<30 || key != keyOf(a, 1, 0) {
		t.Error("the last one", e)
	}
	if key, n, u, e := Send(a, s); e != api.ErrLong || key+n != 0 || !equal(u, api.Ratchet{}) {
		t.Error(e)
	}
	for _, r := range []api.Ratchet{{Chain: 1 << 40}, {Next: 3, Skipped: []api.Key{{N: 1, Secret: -1}}}} {
		if _, _, _, e := Send(a, r); e != api.ErrNone {
			t.Error(e)
		}
	}
}

func TestP19_2Send(t *testing.T) {
	a := newArena()
	r := api.Ratchet{Chain: 3, Next: 5, Skipped: []api.Key{{N: 2, Secret: 1}, {N: 4, Secret: 2}}}
	key, n, s, e := Send(a, r)
	if e != api.OK || n != 5 || key != keyOf(a, 3, 0) || !equal(s, api.Ratchet{Chain: chainOf(a, 3, 1), Next: 6, Skipped: r.Skipped}) {
		t.Error(key, n, s, e)
	}
	s.Skipped[0].N = 99
	if r.Skipped[0].N != 2 {
		t.Error("memory is shared")
	}
}

func TestP19_3(t *testing.T) {
	rnd := rand.New(rand.NewSource(19))
	for range 100 {
		a := newArena()
		out, in := New(1), New(1)
		var sent []api.Key
		told := map[int]int{}
		for range 80 {
			if rnd.Intn(2) == 0 {
				key, n, s, e := Send(a, out)
				if e != api.OK || n != len(sent) {
					t.Fatal(e)
				}
				out = s
				sent = append(sent, api.Key{N: n, Secret: key})
				continue
			}
			if len(sent) == 0 {
				continue
			}
			k := sent[max(0, len(sent)-1-rnd.Intn(12))]
			key, s, e := Take(a, in, k.N)
			if e == api.ErrOld {
				continue
			}
			told[k.N]++
			if e != api.OK || key != k.Secret || told[k.N] > 1 {
				t.Fatal(k, key, e)
			}
			if Check(s) != api.OK {
				t.Fatal(s)
			}
			in = s
		}
	}
}
