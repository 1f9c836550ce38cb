package client

import (
	"slices"

	"tryst/api"
	"tryst/copies"
	"tryst/fault"
	"tryst/tree"
)

// nobody is the last offer's secret of who has none.
const nobody = -1

// state is what a client keeps.
type state struct {
	id     int
	offer  int // the last offer's secret
	in     bool
	member api.Member // if in
	waits  bool
	wait   waiting // if waits
	logs   []api.Log
	told   [api.MaxClients][]int // what each client has told that it has
	mails  []api.Mail
}

// waiting is a commit that waits, and what comes of it.
type waiting struct {
	commit int
	next   api.Member
	mails  []api.Mail
}

// newState is that of a client of which nothing was ever saved.
func newState(id int) state {
	return state{id: id, offer: nobody}
}

// copy is a copy that shares nothing with st.
func (st state) copy() state {
	st.member = copies.Member(st.member)
	st.wait.next = copies.Member(st.wait.next)
	st.wait.mails = slices.Clone(st.wait.mails)
	st.logs = copies.Logs(st.logs)
	for i := range st.told {
		st.told[i] = slices.Clone(st.told[i])
	}
	st.mails = slices.Clone(st.mails)
	return st
}

// enter makes it a member of an epoch, in which no commit of its own waits.
func (st *state) enter(m api.Member) {
	st.in, st.member = true, m
	st.waits, st.wait = false, waiting{}
}

// leave makes it no member.
func (st *state) leave() {
	st.in, st.member = false, api.Member{}
	st.waits, st.wait = false, waiting{}
}

// begin makes it a member of a group that is new to it, with these logs; but its own stays, if there is one.
func (st *state) begin(m api.Member, l []api.Log) {
	var out []api.Log
	own := slices.IndexFunc(st.logs, func(g api.Log) bool { return g.Client == st.id })
	for _, g := range l {
		if own < 0 || g.Client != st.id {
			out = append(out, g)
		}
	}
	if own >= 0 {
		out = append(out, st.logs[own])
	}
	slices.SortFunc(out, func(g, h api.Log) int { return g.Client - h.Client })
	st.logs = out
	st.told = [api.MaxClients][]int{}
	st.enter(m)
}

// secrets is all secrets in the state, rising.
func (st state) secrets() []int {
	var l []int
	if st.offer != nobody {
		l = append(l, st.offer)
	}
	if st.in {
		l = append(l, secretsOf(st.member)...)
	}
	if st.waits {
		l = append(l, secretsOf(st.wait.next)...)
	}
	slices.Sort(l)
	return slices.Compact(l)
}

// secretsOf is the secrets of a membership.
func secretsOf(m api.Member) []int {
	l := []int{m.Sig, m.Init, m.Secret}
	for _, k := range m.Privs {
		l = append(l, k.Secret)
	}
	for _, i := range tree.Members(m.Tree) {
		l = append(l, m.Chains[i].Chain)
		for _, k := range m.Chains[i].Skipped {
			l = append(l, k.Secret)
		}
	}
	return l
}

// sound tells what is wrong with a membership that was read, unless its parts are as many as they should.
func sound(m api.Member) error {
	if e := tree.Check(m.Tree); e != api.OK {
		return fault.Of("tree", api.ErrState)
	}
	if !slices.Contains(tree.Members(m.Tree), m.Leaf) || len(m.Chains) != (len(m.Tree)+1)/2 {
		return fault.Of("chains", api.ErrState)
	}
	return nil
}
