package group

import (
	"tryst/api"
	"tryst/copies"
	"tryst/fault"
	"tryst/nodes"
	"tryst/pack"
	"tryst/parts"
	"tryst/path"
	"tryst/term"
	"tryst/tree"
)

// changed is a tree behind removes and adds.
type changed struct {
	tree     []api.Node
	fresh    []int         // the new leaves, in the order of adds
	packages []api.Package // of adds
}

// change lets the removes go, and then the adds come.
func change(a *term.Arena, t []api.Node, adds, removes []int) (changed, error) {
	if e := tree.Check(t); e != api.OK {
		return changed{}, fault.Of("tree", e)
	}
	if len(adds) > api.MaxLeaves || len(removes) > api.MaxLeaves {
		return changed{}, fault.Of("change", api.ErrLen)
	}
	c := changed{tree: copies.Tree(t)}
	for _, i := range removes {
		u, e := tree.Remove(c.tree, i)
		if e != api.OK {
			return changed{}, fault.Of("remove", e)
		}
		c.tree = u
	}
	for _, i := range adds {
		p, e := pack.ReadPackage(a, i)
		if e != api.OK {
			return changed{}, fault.Of("package", e)
		}
		u, at, e := tree.Add(c.tree, p.Client, p.Pub, p.Sig)
		if e != api.OK {
			return changed{}, fault.Of("add", e)
		}
		c.tree, c.fresh, c.packages = u, append(c.fresh, at), append(c.packages, p)
	}
	return c, nil
}

// committer makes a commit of m, with all that comes of it.
type committer struct {
	a      *term.Arena
	m      api.Member
	secret int

	term     int
	welcomes []int
	next     api.Member
}

// commit makes all of it.
func (c *committer) commit(adds, removes []int) error {
	if err := check(c.a, c.m); err != nil {
		return fault.Wrap("member", err)
	}
	if !parts.Are(c.a, c.secret) {
		return fault.Of("secret", api.ErrNone)
	}
	if has(removes, c.m.Leaf) {
		return fault.Of("removes", api.ErrArg)
	}
	u, err := change(c.a, c.m.Tree, adds, removes)
	if err != nil {
		return fault.Wrap("change", err)
	}
	v, steps, privs, commit, e := path.Make(c.a, u.tree, c.m.Leaf, c.secret, u.fresh)
	if e != api.OK {
		return fault.Of("path", e)
	}
	said := api.Commit{Epoch: c.m.Epoch, From: c.m.Leaf, Adds: adds, Removes: removes, Pub: v[2*c.m.Leaf].Pub, Steps: steps}
	ep, tag, err := follow(c.a, c.m, said, v, commit)
	if err != nil {
		return fault.Wrap("epoch", err)
	}
	said.Tag = tag
	if c.term, e = pack.Commit(c.a, c.m.Sig, said); e != api.OK {
		return fault.Of("commit", e)
	}
	next := api.Member{Client: c.m.Client, Leaf: c.m.Leaf, Epoch: c.m.Epoch + 1, Privs: privs, Sig: c.m.Sig}
	if c.next, err = begin(c.a, next, ep); err != nil {
		return fault.Wrap("next", err)
	}
	return c.welcome(u, ep, steps)
}

// welcome makes the welcomes of all who are new.
func (c *committer) welcome(u changed, ep epoch, steps []api.Step) error {
	w := parts.Writer{Arena: c.a}
	for k, p := range u.packages {
		told := c.pathSecret(&w, u.fresh[k], steps)
		box := w.Put(api.Box, 0, p.Init, w.Kdf(c.secret, purposeWelcome+k),
			ep.joiner, ep.treeTerm, ep.history, w.Word(c.next.Epoch), told)
		c.welcomes = append(c.welcomes, w.Put(api.Sig, 0, c.m.Sig, w.Word(wordWelcome), w.Word(c.m.Leaf), box))
	}
	return fault.Wrap("welcome", w.Err)
}

// pathSecret is the secret of the first node of the path that is above the leaf at, too; Word 0, if there is none.
func (c *committer) pathSecret(w *parts.Writer, at int, steps []api.Step) int {
	sk := c.secret
	for _, s := range steps {
		sk = w.Kdf(sk, purposeNext)
		if nodes.Has(s.Node, at) {
			return sk
		}
	}
	return w.Word(0)
}
