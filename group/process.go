package group

import (
	"tryst/api"
	"tryst/fault"
	"tryst/pack"
	"tryst/path"
	"tryst/term"
	"tryst/tree"
)

// process is the member that m is behind a commit of another one.
func process(a *term.Arena, m api.Member, commit int) (api.Member, error) {
	if err := check(a, m); err != nil {
		return api.Member{}, fault.Wrap("member", err)
	}
	c, signer, e := pack.ReadCommit(a, commit)
	if e != api.OK {
		return api.Member{}, fault.Of("commit", e)
	}
	if err := fits(m, c, signer); err != nil {
		return api.Member{}, fault.Wrap("commit", err)
	}
	u, err := change(a, m.Tree, c.Adds, c.Removes)
	if err != nil {
		return api.Member{}, fault.Wrap("change", err)
	}
	if has(c.Removes, m.Leaf) {
		return api.Member{}, fault.Of("removes", api.ErrGone)
	}
	v, keys, secret, e := path.Open(a, u.tree, c.From, c.Pub, c.Steps, m.Leaf, m.Privs, u.fresh)
	if e != api.OK {
		return api.Member{}, fault.Of("path", e)
	}
	ep, tag, err := follow(a, m, c, v, secret)
	if err != nil {
		return api.Member{}, fault.Wrap("epoch", err)
	}
	if c.Tag != tag {
		return api.Member{}, fault.Of("tag", api.ErrTag)
	}
	next := api.Member{Client: m.Client, Leaf: m.Leaf, Epoch: m.Epoch + 1, Privs: keys, Sig: m.Sig}
	return begin(a, next, ep)
}

// fits tells what is wrong, unless m may take a commit: it is of m's epoch, and of another member, who signed it.
func fits(m api.Member, c api.Commit, signer int) error {
	if c.Epoch != m.Epoch {
		return fault.Of("epoch", api.ErrStale)
	}
	if c.From == m.Leaf {
		return fault.Of("from", api.ErrState)
	}
	if !has(tree.Members(m.Tree), c.From) {
		return fault.Of("from", api.ErrNone)
	}
	if signer != m.Tree[2*c.From].Sig {
		return fault.Of("signer", api.ErrSign)
	}
	if has(c.Removes, c.From) {
		return fault.Of("removes", api.ErrArg)
	}
	return nil
}
