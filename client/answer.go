package client

import (
	"errors"

	"tryst/api"
	"tryst/fault"
	"tryst/group"
	"tryst/logs"
	"tryst/onion"
	"tryst/parts"
	"tryst/ratchet"
	"tryst/slots"
)

// Answer takes the answer to the last Request.
func (c *Client) Answer(round, answer int) api.Errno {
	if err := c.usable(); err != nil {
		return fault.Number(err)
	}
	if !c.asked.open || c.asked.round != round {
		return api.ErrState
	}
	x, e := onion.Read(c.a, c.asked.keys, answer)
	if e != api.OK {
		return e
	}
	if err := c.take(x); err != nil {
		return fault.Number(fault.Wrap("answer", err))
	}
	c.asked = question{}
	return api.OK
}

// take takes what was read.
func (c *Client) take(x int) error {
	n, err := parts.Number(c.a, x)
	if !c.st.in || c.asked.nothing || err == nil && n == 0 {
		return nil
	}
	next := c.st.copy()
	if slots.Even(c.asked.round) {
		if err := c.follow(&next, x); err != nil {
			return err
		}
		return c.save(next)
	}
	said, err := c.hear(&next, x)
	if err != nil {
		return err
	}
	// The chain is turned, whatever is wrong with the message.
	err = c.put(&next, said)
	if unsaved := c.save(next); unsaved != nil {
		return unsaved
	}
	return err
}

// follow takes the commit that follows the epoch.
func (c *Client) follow(st *state, x int) error {
	if st.waits && x == st.wait.commit {
		st.mails = append(st.mails, st.wait.mails...)
		st.enter(st.wait.next)
		return nil
	}
	m, e := group.Process(c.a, st.member, x)
	err := fault.Of("process", e)
	if errors.Is(err, api.ErrGone) {
		st.leave()
		return nil
	}
	if err != nil {
		return err
	}
	st.enter(m)
	return nil
}

// hear takes what the partner said: what it has; and a message is left, or Word 0.
func (c *Client) hear(st *state, x int) (int, error) {
	l, err := parts.Just(c.a, x, api.List, 2)
	if err != nil {
		return 0, fault.Wrap("said", err)
	}
	n, err := parts.Number(c.a, l[0])
	if err != nil {
		return 0, fault.Wrap("number", err)
	}
	if _, err := parts.Of(c.a, l[1], api.Seal); err != nil {
		return 0, fault.Wrap("seal", err)
	}
	partner := c.asked.partner
	key, turned, e := ratchet.Take(c.a, st.member.Chains[partner], n)
	if e != api.OK {
		return 0, fault.Of("chain", e)
	}
	in, e := c.a.Open(l[1], key)
	if e != api.OK {
		return 0, fault.Of("seal", e)
	}
	if len(in) != 2 {
		return 0, fault.Of("seal", api.ErrKind)
	}
	have, err := parts.Numbers(c.a, in[0])
	if err != nil || len(have) != api.MaxClients {
		return 0, fault.Of("have", api.ErrKind)
	}
	st.member.Chains[partner] = turned
	st.told[st.member.Tree[2*partner].Client] = have
	return in[1], nil
}

// put puts a message to the logs, if it is one that the partner signed.
func (c *Client) put(st *state, said int) error {
	if n, err := parts.Number(c.a, said); err == nil && n == 0 {
		return nil
	}
	l, err := parts.Just(c.a, said, api.Sig, 5)
	if err != nil {
		return fault.Wrap("message", err)
	}
	var numbers []int
	for _, i := range l[1:] {
		n, err := parts.Number(c.a, i)
		if err != nil {
			return fault.Wrap("message", err)
		}
		numbers = append(numbers, n)
	}
	if numbers[0] != wordMessage {
		return fault.Of("message", api.ErrKind)
	}
	whom, err := parts.Of(c.a, st.member.Tree[2*c.asked.partner].Sig, api.Pub)
	if err != nil || whom[0] != l[0] {
		return fault.Of("message", api.ErrSign)
	}
	next, _, e := logs.Put(st.logs, api.Msg{Client: numbers[1], Seq: numbers[2], Body: numbers[3]})
	if e != api.OK {
		return fault.Of("message", e)
	}
	st.logs = next
	return nil
}
