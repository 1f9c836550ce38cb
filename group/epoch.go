package group

import (
	"tryst/api"
	"tryst/fault"
	"tryst/pack"
	"tryst/parts"
	"tryst/ratchet"
	"tryst/sched"
	"tryst/term"
	"tryst/tree"
)

// epoch is what the members of an epoch have in common.
type epoch struct {
	tree     []api.Node
	treeTerm int
	joiner   int
	history  int
	secret   int
}

// create is the only member of a new group.
func create(a *term.Arena, client, secret int) (api.Member, error) {
	p, e := pack.Package(a, client, secret)
	if e != api.OK {
		return api.Member{}, fault.Of("package", e)
	}
	t, e := tree.New(client, p.Pub, p.Sig)
	if e != api.OK {
		return api.Member{}, fault.Of("tree", e)
	}
	treeTerm, e := tree.Term(a, t)
	if e != api.OK {
		return api.Member{}, fault.Of("tree", e)
	}
	history, e := sched.First(a, treeTerm)
	if e != api.OK {
		return api.Member{}, fault.Of("history", e)
	}
	w := parts.Writer{Arena: a}
	start, commit := w.Kdf(secret, purposeStart), w.Kdf(secret, purposeCommit)
	m := api.Member{
		Client: client,
		Privs:  []api.Key{{N: 0, Secret: w.Kdf(secret, purposePub)}},
		Sig:    w.Kdf(secret, purposeSig),
	}
	if w.Err != nil {
		return api.Member{}, fault.Wrap("create", w.Err)
	}
	joiner, e := sched.Joiner(a, start, commit)
	if e != api.OK {
		return api.Member{}, fault.Of("joiner", e)
	}
	ep := epoch{tree: t, treeTerm: treeTerm, joiner: joiner, history: history}
	if err := ep.open(a); err != nil {
		return api.Member{}, err
	}
	return begin(a, m, ep)
}

// open finds the epoch's secret, of its joiner, tree and history.
func (ep *epoch) open(a *term.Arena) error {
	secret, e := sched.Secret(a, ep.joiner, ep.treeTerm, ep.history)
	ep.secret = secret
	return fault.Of("secret", e)
}

// begin is the member m at an epoch's beginning.
func begin(a *term.Arena, m api.Member, ep epoch) (api.Member, error) {
	start, e := sched.Start(a, ep.secret)
	if e != api.OK {
		return api.Member{}, fault.Of("start", e)
	}
	m.Tree, m.Secret, m.History, m.Init = ep.tree, ep.secret, ep.history, start
	m.Chains = make([]api.Ratchet, leaves(ep.tree))
	for _, i := range tree.Members(ep.tree) {
		chain, e := sched.Chain(a, ep.secret, i)
		if e != api.OK {
			return api.Member{}, fault.Of("chain", e)
		}
		m.Chains[i] = ratchet.New(chain)
	}
	return m, nil
}

// follow is the epoch to which a commit leads from that of m, with the new tree and the commit secret; and its tag.
func follow(a *term.Arena, m api.Member, c api.Commit, t []api.Node, commit int) (ep epoch, tag int, err error) {
	body, e := pack.Body(a, c)
	if e != api.OK {
		return epoch{}, 0, fault.Of("body", e)
	}
	ep.tree = t
	if ep.history, e = sched.History(a, m.History, body); e != api.OK {
		return epoch{}, 0, fault.Of("history", e)
	}
	if ep.joiner, e = sched.Joiner(a, m.Init, commit); e != api.OK {
		return epoch{}, 0, fault.Of("joiner", e)
	}
	if ep.treeTerm, e = tree.Term(a, t); e != api.OK {
		return epoch{}, 0, fault.Of("tree", e)
	}
	if err := ep.open(a); err != nil {
		return epoch{}, 0, err
	}
	if tag, e = sched.Tag(a, ep.secret, ep.history); e != api.OK {
		return epoch{}, 0, fault.Of("tag", e)
	}
	return ep, tag, nil
}
