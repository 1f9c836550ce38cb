package group

import (
	"tryst/api"
	"tryst/fault"
	"tryst/nodes"
	"tryst/pack"
	"tryst/parts"
	"tryst/term"
	"tryst/tree"
)

// joiner is a client that joins by a welcome.
type joiner struct {
	a      *term.Arena
	client int
	secret int

	signer, from int // who signed the welcome, and the leaf that it names
	path         int // the secret for the path, or Word 0
	epoch        int
	m            api.Member
}

// join is the member that the client is.
func (j *joiner) join(welcome int) (api.Member, error) {
	p, e := pack.Package(j.a, j.client, j.secret)
	if e != api.OK {
		return api.Member{}, fault.Of("package", e)
	}
	if !parts.Are(j.a, welcome) {
		return api.Member{}, fault.Of("welcome", api.ErrNone)
	}
	ep, err := j.read(welcome)
	if err != nil {
		return api.Member{}, fault.Wrap("welcome", err)
	}
	if err := j.place(ep.tree, p); err != nil {
		return api.Member{}, fault.Wrap("leaf", err)
	}
	if err := j.climb(ep.tree); err != nil {
		return api.Member{}, fault.Unfit("path", err, api.ErrPath)
	}
	if err := ep.open(j.a); err != nil {
		return api.Member{}, err
	}
	return begin(j.a, j.m, ep)
}

// read reads a welcome.
func (j *joiner) read(welcome int) (epoch, error) {
	l, err := parts.Just(j.a, welcome, api.Sig, 4)
	if err != nil {
		return epoch{}, err
	}
	first, err := parts.Number(j.a, l[1])
	if err != nil || first != wordWelcome {
		return epoch{}, fault.Of("first", api.ErrKind)
	}
	j.signer = l[0]
	if j.from, err = parts.Number(j.a, l[2]); err != nil {
		return epoch{}, fault.Wrap("from", err)
	}
	if _, err := parts.Of(j.a, l[3], api.Box); err != nil {
		return epoch{}, fault.Wrap("box", err)
	}
	w := parts.Writer{Arena: j.a}
	init := w.Kdf(j.secret, purposeInit)
	j.m = api.Member{Client: j.client, Sig: w.Kdf(j.secret, purposeSig)}
	j.m.Privs = []api.Key{{Secret: w.Kdf(j.secret, purposePub)}}
	if w.Err != nil {
		return epoch{}, fault.Wrap("secrets", w.Err)
	}
	return j.unbox(l[3], init)
}

// unbox reads what is told in a welcome's box.
func (j *joiner) unbox(box, init int) (epoch, error) {
	l, e := j.a.Unbox(box, init)
	if e != api.OK || len(l) != 5 {
		return epoch{}, fault.Of("box", api.ErrOpen)
	}
	n, err := parts.Number(j.a, l[3])
	if err != nil || n < 1 {
		return epoch{}, fault.Of("epoch", api.ErrKind)
	}
	t, e := tree.Of(j.a, l[1])
	if e != api.OK {
		return epoch{}, fault.Of("tree", e)
	}
	j.epoch, j.path = n, l[4]
	return epoch{tree: t, treeTerm: l[1], joiner: l[0], history: l[2]}, nil
}

// place finds the client's leaf, and tells what is wrong with it, or with that of who signed.
func (j *joiner) place(t []api.Node, p api.Package) error {
	at := tree.Find(t, j.client)
	if at < 0 || !has(tree.Members(t), j.from) {
		return fault.Of("members", api.ErrNone)
	}
	if !own(j.a, t[2*j.from].Sig, j.signer) {
		return fault.Of("signer", api.ErrSign)
	}
	if at == j.from || t[2*at].Pub != p.Pub || t[2*at].Sig != p.Sig {
		return fault.Of("own", api.ErrState)
	}
	j.m.Leaf, j.m.Epoch = at, j.epoch
	j.m.Privs[0].N = 2 * at
	return nil
}

// climb finds the keys of the nodes above both leaves whose secrets the client is told.
func (j *joiner) climb(t []api.Node) error {
	if n, err := parts.Number(j.a, j.path); err == nil && n == 0 {
		return nil
	}
	up, e := nodes.Path(j.m.Leaf, leaves(t))
	if e != api.OK {
		return fault.Of("leaf", e)
	}
	w := parts.Writer{Arena: j.a}
	sk, fit := j.path, 0
	for _, x := range up {
		if t[x].Kind != api.Parent || has(t[x].Unmerged, j.m.Leaf) || !nodes.Has(x, j.from) {
			continue
		}
		key := w.Kdf(sk, purposeKey)
		pub := w.Pub(key)
		sk = w.Kdf(sk, purposeNext)
		if w.Err != nil {
			return fault.Wrap("climb", w.Err)
		}
		if pub != t[x].Pub {
			return fault.Of("climb", api.ErrPath)
		}
		j.m.Privs = append(j.m.Privs, api.Key{N: x, Secret: key})
		fit++
	}
	if fit == 0 {
		// A secret that is of no node does not fit.
		return fault.Of("climb", api.ErrPath)
	}
	return nil
}
