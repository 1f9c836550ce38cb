package client

import (
	"tryst/api"
	"tryst/fault"
	"tryst/logs"
	"tryst/onion"
	"tryst/parts"
	"tryst/ratchet"
	"tryst/sched"
	"tryst/slots"
	"tryst/tree"
)

// The Words with which payloads begin (24), and that with which a message does.
const (
	wordNothing = iota + 70
	wordWrite
	wordRead
	wordMeet
	wordMessage = 81
)

// Request is the client's onion of a round.
func (c *Client) Request(round, draw int) (int, api.Errno) {
	if err := c.usable(); err != nil {
		return 0, fault.Number(err)
	}
	if round < 0 || round > api.MaxRounds {
		return 0, api.ErrArg
	}
	if err := c.usable(draw); err != nil {
		return 0, fault.Number(err)
	}
	o, err := c.request(round, draw)
	if err != nil {
		return 0, fault.Number(fault.Wrap("request", err))
	}
	return o, api.OK
}

// request wraps what the client asks in a round, and keeps what it needs to read the answer.
func (c *Client) request(round, draw int) (int, error) {
	next := c.st.copy()
	q := question{open: true, round: round}
	payload, err := c.payload(&next, &q)
	if err != nil {
		return 0, err
	}
	o, keys, e := onion.Wrap(c.a, c.servers, draw, payload)
	if e != api.OK {
		return 0, fault.Of("onion", e)
	}
	if !q.nothing && !slots.Even(round) {
		// The chain was turned: no key goes out that could go out again.
		if err := c.save(next); err != nil {
			return 0, err
		}
	}
	q.keys = keys
	c.asked = q
	return o, nil
}

// payload is what the client asks.
func (c *Client) payload(st *state, q *question) (int, error) {
	if !st.in {
		return c.nothing(q)
	}
	if slots.Even(q.round) {
		return c.ask(st)
	}
	p, e := slots.Partner(tree.Members(st.member.Tree), st.member.Leaf, q.round/2)
	if e != api.OK {
		return 0, fault.Of("partner", e)
	}
	if p < 0 {
		return c.nothing(q)
	}
	q.partner = p
	return c.meet(st, q)
}

// nothing asks for nothing.
func (c *Client) nothing(q *question) (int, error) {
	q.nothing = true
	w := parts.Writer{Arena: c.a}
	i := w.List(w.Word(wordNothing))
	return i, w.Err
}

// ask asks for the commit that follows the epoch, and offers the one that waits.
func (c *Client) ask(st *state) (int, error) {
	r, e := sched.Register(c.a, st.member.Secret)
	if e != api.OK {
		return 0, fault.Of("register", e)
	}
	w := parts.Writer{Arena: c.a}
	var i int
	if st.waits {
		i = w.List(w.Word(wordWrite), r, st.wait.commit)
	} else {
		i = w.List(w.Word(wordRead), r)
	}
	return i, w.Err
}

// meet tells the partner what the client has, and a message that it lacks.
func (c *Client) meet(st *state, q *question) (int, error) {
	own := st.member.Leaf
	d, e := sched.Meet(c.a, st.member.Secret, own, q.partner, q.round)
	if e != api.OK {
		return 0, fault.Of("meet", e)
	}
	key, n, turned, e := ratchet.Send(c.a, st.member.Chains[own])
	if e != api.OK {
		return 0, fault.Of("chain", e)
	}
	st.member.Chains[own] = turned
	w := parts.Writer{Arena: c.a}
	have := w.Words(logs.Have(st.logs))
	said := w.Put(api.Seal, 0, key, have, c.message(&w, st, q))
	i := w.List(w.Word(wordMeet), d, w.List(w.Word(n), said))
	return i, w.Err
}

// message is a message that the partner lacks, by what it has last told; Word 0, if there is none.
func (c *Client) message(w *parts.Writer, st *state, q *question) int {
	partner := st.member.Tree[2*q.partner].Client
	m, ok := logs.Want(st.logs, st.told[partner])
	if !ok {
		return w.Word(0)
	}
	return w.Put(api.Sig, 0, st.member.Sig, w.Word(wordMessage), w.Word(m.Client), w.Word(m.Seq), w.Word(m.Body))
}
