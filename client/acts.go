package client

import (
	"slices"

	"tryst/api"
	"tryst/fault"
	"tryst/group"
	"tryst/logs"
	"tryst/pack"
	"tryst/parts"
	"tryst/tree"
)

// wordMail is the Word with which a mail begins.
const wordMail = 33

// Offer offers a package: its term.
func (c *Client) Offer(draw int) (int, api.Errno) {
	offered := 0
	e := c.change(func(next *state) error {
		if next.in {
			return fault.Of("member", api.ErrState)
		}
		p, e := pack.Package(c.a, next.id, draw)
		offered, next.offer = p.Term, draw
		return fault.Of("package", e)
	}, draw)
	if e != api.OK {
		return 0, e
	}
	return offered, api.OK
}

// Create makes a group of the client alone.
func (c *Client) Create(draw int) api.Errno {
	return c.change(func(next *state) error {
		if next.in {
			return fault.Of("member", api.ErrState)
		}
		m, e := group.Create(c.a, next.id, draw)
		next.begin(m, nil)
		return fault.Of("group", e)
	}, draw)
}

// Invite commits to add a package's client.
func (c *Client) Invite(pkg, draw int) api.Errno {
	return c.change(func(next *state) error {
		return c.commit(next, []int{pkg}, nil, draw)
	}, pkg, draw)
}

// Remove commits to remove a client.
func (c *Client) Remove(other, draw int) api.Errno {
	return c.change(func(next *state) error {
		if err := mayCommit(next); err != nil {
			return err
		}
		at := tree.Find(next.member.Tree, other)
		if at < 0 {
			return fault.Of("other", api.ErrNone)
		}
		return c.commit(next, nil, []int{at}, draw)
	}, draw)
}

// Renew commits new keys alone.
func (c *Client) Renew(draw int) api.Errno {
	return c.change(func(next *state) error {
		return c.commit(next, nil, nil, draw)
	}, draw)
}

// mayCommit tells what is wrong, unless a commit may be made now.
func mayCommit(st *state) error {
	if !st.in || st.waits {
		return fault.Of("member", api.ErrState)
	}
	return nil
}

// commit makes a commit that then waits, with a mail for each add.
func (c *Client) commit(st *state, adds, removes []int, draw int) error {
	if err := mayCommit(st); err != nil {
		return err
	}
	commit, welcomes, m, e := group.Commit(c.a, st.member, adds, removes, draw)
	if e != api.OK {
		return fault.Of("commit", e)
	}
	w := parts.Writer{Arena: c.a}
	var mails []api.Mail
	for k, welcome := range welcomes {
		p, e := pack.ReadPackage(c.a, adds[k])
		if e != api.OK {
			return fault.Of("package", e)
		}
		mail := w.Put(api.Sig, 0, st.member.Sig, w.Word(wordMail), welcome, w.Words(logs.Have(st.logs)))
		mails = append(mails, api.Mail{Client: p.Client, Term: mail})
	}
	st.waits, st.wait = true, waiting{commit: commit, next: m, mails: mails}
	return fault.Wrap("mail", w.Err)
}

// Say says a message: its number.
func (c *Client) Say(body int) (int, api.Errno) {
	number := 0
	e := c.change(func(next *state) error {
		if !next.in {
			return fault.Of("member", api.ErrState)
		}
		l, seq, e := logs.Say(next.logs, next.id, body)
		next.logs, number = l, seq
		return fault.Of("say", e)
	})
	if e != api.OK {
		return 0, e
	}
	return number, api.OK
}

// Join joins a group by a mail.
func (c *Client) Join(mail int) api.Errno {
	return c.change(func(next *state) error {
		if next.in || next.offer == nobody {
			return fault.Of("member", api.ErrState)
		}
		return fault.Wrap("join", c.join(next, mail))
	}, mail)
}

// letter is what a mail says.
type letter struct {
	signer  int
	welcome int
	have    []int
}

// read reads a mail.
func (c *Client) read(mail int) (letter, error) {
	l, err := parts.Just(c.a, mail, api.Sig, 4)
	if err != nil {
		return letter{}, err
	}
	first, err := parts.Number(c.a, l[1])
	if err != nil || first != wordMail {
		return letter{}, fault.Of("first", api.ErrKind)
	}
	have, err := parts.Numbers(c.a, l[3])
	if err != nil || len(have) != api.MaxClients {
		return letter{}, fault.Of("have", api.ErrKind)
	}
	return letter{l[0], l[2], have}, nil
}

// join makes it a member by a mail.
func (c *Client) join(st *state, mail int) error {
	m, err := c.read(mail)
	if err != nil {
		return fault.Wrap("mail", err)
	}
	member, e := group.Join(c.a, st.id, st.offer, m.welcome)
	if e != api.OK {
		return fault.Of("group", e)
	}
	if l, err := parts.Of(c.a, m.welcome, api.Sig); err != nil || !slices.Equal(l[:1], []int{m.signer}) {
		return fault.Of("signer", api.ErrSign)
	}
	have, e := logs.From(m.have)
	if e != api.OK {
		return fault.Of("logs", e)
	}
	st.begin(member, have)
	st.offer = nobody
	return nil
}
