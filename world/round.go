package world

import (
	"tryst/api"
	"tryst/know"
	"tryst/mix"
)

// maxInject is how many terms the enemy may put in.
const maxInject = 50

// traffic is what is under way in a round.
type traffic struct {
	in   []int // what comes to the servers
	who  []int // of what came from clients, the client
	sent int
}

// play plays a round.
func (w *World) play(a api.Act) api.Errno {
	if w.a == nil || !w.mayInject(a.Inject) {
		return api.ErrArg
	}
	t, e := w.gather(a)
	if e != api.OK {
		return e
	}
	next, out, e := w.serve(t.in, a.Perms)
	if e != api.OK {
		return e
	}
	w.overhear(next, out)
	w.mix = next
	for k, i := range t.who {
		if !named(a.Back, i) {
			w.people[i].client.Answer(w.round, out[k])
		}
	}
	w.sent = append(w.sent, t.sent)
	w.round++
	return api.OK
}

// named tells whether l has a true at i.
func named(l []bool, i int) bool {
	return i < len(l) && l[i]
}

// mayInject tells whether the enemy may put these terms in: it must know them.
func (w *World) mayInject(l []int) bool {
	if len(l) > maxInject {
		return false
	}
	if len(l) == 0 {
		return true
	}
	known, e := know.All(w.a, w.Told())
	if e != api.OK {
		return false
	}
	for _, i := range l {
		if i < 0 || i >= len(known) || !known[i] {
			return false
		}
	}
	return true
}

// gather asks all clients that are there for their requests, and puts what the enemy has behind what comes of these.
func (w *World) gather(a api.Act) (traffic, api.Errno) {
	var t traffic
	for i := range w.people {
		p := &w.people[i]
		if p.away || p.client.Down() {
			continue
		}
		draw, e := w.draw()
		if e != api.OK {
			return traffic{}, e
		}
		o, e := p.client.Request(w.round, draw)
		if e != api.OK {
			continue
		}
		t.sent++
		w.tell(o)
		if !named(a.Lost, i) {
			t.in, t.who = append(t.in, o), append(t.who, i)
		}
	}
	t.in = append(t.in, a.Inject...)
	w.tell(a.Inject...)
	return t, api.OK
}

// serve is the servers' round; each place stays, if perms are none.
func (w *World) serve(in []int, perms [][]int) (api.Mix, []int, api.Errno) {
	next, out, e := mix.Round(w.a, w.mix, w.secrets, in, perms)
	if e != api.ErrLen && e != api.ErrArg {
		return next, out, e
	}
	stay := make([]int, len(in))
	for i := range stay {
		stay[i] = i
	}
	return mix.Round(w.a, w.mix, w.secrets, in, [][]int{stay, stay, stay})
}

// overhear tells the enemy what the servers have newly seen, and what they answered, layer by layer.
func (w *World) overhear(next api.Mix, out []int) {
	for s, l := range next.Seen {
		w.tell(l[len(w.mix.Seen[s]):]...)
	}
	for _, x := range out {
		w.tell(x)
		for {
			inner, ok := w.sealed(x)
			if !ok {
				break
			}
			w.tell(inner)
			x = inner
		}
	}
}

// sealed is what stands second in a Seal, if that is a Seal, too.
func (w *World) sealed(x int) (int, bool) {
	t, e := w.a.Node(x)
	if e != api.OK || t.Kind != api.Seal || len(t.Args) < 2 {
		return 0, false
	}
	inner, e := w.a.Node(t.Args[1])
	return t.Args[1], e == api.OK && inner.Kind == api.Seal
}
