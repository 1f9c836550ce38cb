package world

import (
	"tryst/api"
	"tryst/client"
	"tryst/tree"
)

// Do does an act.
func (w *World) Do(a api.Act) api.Errno {
	if a.Kind < api.ActRound || a.Kind > api.ActServer {
		return api.ErrKind
	}
	if a.Kind != api.ActRound && a.Kind != api.ActServer && !w.has(a.Client) {
		return api.ErrArg
	}
	e := w.act(a)
	w.post()
	return e
}

// act does an act that may be.
func (w *World) act(a api.Act) api.Errno {
	switch a.Kind {
	case api.ActInvite:
		if !w.has(a.Other) || w.people[a.Other].offer < 0 {
			return api.ErrNone
		}
		fallthrough
	case api.ActCreate, api.ActOffer, api.ActRemove, api.ActRenew:
		draw, e := w.draw()
		if e != api.OK {
			return e
		}
		return w.drawn(a, draw)
	case api.ActCrash, api.ActTrip, api.ActReveal:
		if w.people[a.Client].disk.Off() {
			return api.ErrState
		}
		return w.powered(a)
	case api.ActSay:
		_, e := w.people[a.Client].client.Say(a.Body)
		return e
	case api.ActJoin:
		return w.join(&w.people[a.Client])
	case api.ActStart:
		return w.start(a.Client)
	case api.ActAway:
		w.people[a.Client].away = !w.people[a.Client].away
		return api.OK
	case api.ActServer:
		if a.N < 0 || a.N >= len(w.secrets) {
			return api.ErrArg
		}
		w.tell(w.secrets[a.N])
		return api.OK
	}
	return w.play(a)
}

// drawn does an act that has a draw.
func (w *World) drawn(a api.Act, draw int) api.Errno {
	p := &w.people[a.Client]
	switch a.Kind {
	case api.ActInvite:
		return p.client.Invite(w.people[a.Other].offer, draw)
	case api.ActCreate:
		return p.client.Create(draw)
	case api.ActRemove:
		return p.client.Remove(a.Other, draw)
	case api.ActRenew:
		return p.client.Renew(draw)
	}
	offer, e := p.client.Offer(draw)
	if e == api.OK {
		p.offer = offer
		w.tell(offer)
	}
	return e
}

// powered does an act on a client that has power.
func (w *World) powered(a api.Act) api.Errno {
	p := &w.people[a.Client]
	switch a.Kind {
	case api.ActCrash:
		p.disk.Crash(a.Keep, a.Torn)
		return api.OK
	case api.ActTrip:
		p.disk.Trip(a.N, a.Keep, a.Torn)
		return api.OK
	}
	return w.reveal(p)
}

// reveal tells the enemy all that a client holds.
func (w *World) reveal(p *person) api.Errno {
	if m, ok := p.client.Member(); ok {
		t, e := tree.Term(w.a, m.Tree)
		if e != api.OK {
			return e
		}
		w.tell(t, m.History)
	}
	w.tell(p.client.Secrets()...)
	return api.OK
}

// join lets a client join by its oldest mail, which goes.
func (w *World) join(p *person) api.Errno {
	if len(p.mails) == 0 {
		return api.ErrNone
	}
	mail := p.mails[0]
	p.mails = p.mails[1:]
	return p.client.Join(mail)
}

// start gives a client its power back.
func (w *World) start(i int) api.Errno {
	p := &w.people[i]
	if !p.disk.Off() {
		return api.ErrState
	}
	p.disk.Start()
	c, e := client.Open(w.a, p.disk, i, w.pubs)
	if e != api.OK {
		return e
	}
	p.client = c
	return api.OK
}

// post brings the mails that clients are to send to their receivers.
func (w *World) post() {
	for i := range w.people {
		l, e := w.people[i].client.Mails()
		if e != api.OK {
			continue
		}
		for _, m := range l {
			w.tell(m.Term)
			if w.has(m.Client) {
				w.people[m.Client].mails = append(w.people[m.Client].mails, m.Term)
			}
		}
	}
}
