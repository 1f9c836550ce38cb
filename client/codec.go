package client

import (
	"tryst/api"
	"tryst/fault"
)

// mark is the first byte of each state that is saved: so none is without bytes.
const mark = 1

// writer lays numbers from 0 on side by side, seven bits a byte, the lowest first; all bytes but the last of each have the highest bit set.
type writer struct{ b []byte }

func (w *writer) number(n int) {
	for ; n >= 128; n >>= 7 {
		w.b = append(w.b, byte(n)|128)
	}
	w.b = append(w.b, byte(n))
}

func (w *writer) flag(is bool) {
	n := 0
	if is {
		n = 1
	}
	w.number(n)
}

func (w *writer) numbers(l []int) {
	w.number(len(l))
	for _, n := range l {
		w.number(n)
	}
}

func (w *writer) keys(l []api.Key) {
	w.number(len(l))
	for _, k := range l {
		w.number(k.N)
		w.number(k.Secret)
	}
}

func (w *writer) mails(l []api.Mail) {
	w.number(len(l))
	for _, m := range l {
		w.number(m.Client)
		w.number(m.Term)
	}
}

func (w *writer) member(m api.Member) {
	for _, n := range []int{m.Client, m.Leaf, m.Epoch, m.Sig, m.Init, m.Secret, m.History, len(m.Tree)} {
		w.number(n)
	}
	for _, node := range m.Tree {
		for _, n := range []int{node.Kind, node.Client, node.Pub, node.Sig} {
			w.number(n)
		}
		w.numbers(node.Unmerged)
	}
	w.keys(m.Privs)
	w.number(len(m.Chains))
	for _, r := range m.Chains {
		w.number(r.Chain)
		w.number(r.Next)
		w.keys(r.Skipped)
	}
}

func (w *writer) logs(l []api.Log) {
	w.number(len(l))
	for _, g := range l {
		w.number(g.Client)
		w.number(g.Base)
		w.numbers(g.Bodies)
	}
}

// encode is a state's bytes.
func encode(st state) []byte {
	w := &writer{}
	w.number(mark)
	w.number(st.id)
	w.number(st.offer - nobody)
	w.flag(st.in)
	if st.in {
		w.member(st.member)
	}
	w.flag(st.waits)
	if st.waits {
		w.number(st.wait.commit)
		w.member(st.wait.next)
		w.mails(st.wait.mails)
	}
	w.logs(st.logs)
	for _, l := range st.told {
		w.numbers(l)
	}
	w.mails(st.mails)
	return w.b
}

// reader reads what a writer laid; bad tells whether it is something else.
type reader struct {
	b   []byte
	bad bool
}

func (r *reader) number() int {
	n := 0
	for shift := 0; shift < 63; shift += 7 {
		if len(r.b) == 0 {
			break
		}
		c := r.b[0]
		r.b = r.b[1:]
		n |= int(c&127) << shift
		if c < 128 {
			return n
		}
	}
	r.bad, r.b = true, nil
	return 0
}

// count is how many things come, each of which has a byte or more.
func (r *reader) count() int {
	n := r.number()
	if n > len(r.b) {
		r.bad = true
		return 0
	}
	return n
}

func (r *reader) flag() bool {
	return r.number() == 1
}

func (r *reader) numbers() []int {
	var out []int
	for range r.count() {
		out = append(out, r.number())
	}
	return out
}

func (r *reader) keys() []api.Key {
	var out []api.Key
	for range r.count() {
		n := r.number()
		out = append(out, api.Key{N: n, Secret: r.number()})
	}
	return out
}

func (r *reader) mails() []api.Mail {
	var out []api.Mail
	for range r.count() {
		client := r.number()
		out = append(out, api.Mail{Client: client, Term: r.number()})
	}
	return out
}

func (r *reader) member() api.Member {
	m := api.Member{Client: r.number()}
	m.Leaf = r.number()
	m.Epoch = r.number()
	m.Sig = r.number()
	m.Init = r.number()
	m.Secret = r.number()
	m.History = r.number()
	for range r.count() {
		node := api.Node{Kind: r.number()}
		node.Client = r.number()
		node.Pub = r.number()
		node.Sig = r.number()
		node.Unmerged = r.numbers()
		m.Tree = append(m.Tree, node)
	}
	m.Privs = r.keys()
	for range r.count() {
		chain := r.number()
		next := r.number()
		m.Chains = append(m.Chains, api.Ratchet{Chain: chain, Next: next, Skipped: r.keys()})
	}
	return m
}

func (r *reader) logs() []api.Log {
	var out []api.Log
	for range r.count() {
		client := r.number()
		base := r.number()
		out = append(out, api.Log{Client: client, Base: base, Bodies: r.numbers()})
	}
	return out
}

// decode is the state that was saved; a new one, if none was.
func decode(b []byte, id int) (state, error) {
	if len(b) == 0 {
		return newState(id), nil
	}
	r := &reader{b: b}
	r.bad = r.number() != mark
	st := state{id: r.number()}
	st.offer = r.number() + nobody
	if st.in = r.flag(); st.in {
		st.member = r.member()
	}
	if st.waits = r.flag(); st.waits {
		st.wait.commit = r.number()
		st.wait.next = r.member()
		st.wait.mails = r.mails()
	}
	st.logs = r.logs()
	for i := range st.told {
		st.told[i] = r.numbers()
	}
	st.mails = r.mails()
	return st, r.whole(st)
}

// whole tells what is wrong with a state that was read.
func (r *reader) whole(st state) error {
	if r.bad || len(r.b) > 0 || st.id >= api.MaxClients {
		return fault.Of("state", api.ErrState)
	}
	if st.in {
		if err := sound(st.member); err != nil {
			return fault.Wrap("member", err)
		}
	}
	if st.waits {
		if err := sound(st.wait.next); err != nil {
			return fault.Wrap("waiting", err)
		}
	}
	return nil
}
