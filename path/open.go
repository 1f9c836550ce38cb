package path

import (
	"slices"

	"tryst/api"
	"tryst/fault"
	"tryst/nodes"
	"tryst/parts"
	"tryst/term"
)

// opener finds what the leaf j makes of the steps of the leaf i.
type opener struct {
	a     *term.Arena
	t     []api.Node
	i     int
	pub   int
	steps []api.Step
	j     int
	privs []api.Key
	out   []int

	u      []api.Node
	keys   []api.Key
	commit int
}

// open finds all of it.
func (o *opener) open() error {
	if err := there(o.t, o.i); err != nil {
		return err
	}
	if err := there(o.t, o.j); err != nil {
		return err
	}
	if err := o.known(); err != nil {
		return err
	}
	if o.j == o.i {
		return fault.Of("leaf", api.ErrArg)
	}
	path := turns(o.t, o.i)
	if err := o.fits(path); err != nil {
		return fault.Unfit("steps", err, api.ErrPath)
	}
	first := slices.IndexFunc(path, func(w turn) bool { return nodes.Has(w.node, o.j) })
	if first < 0 {
		return fault.Of("steps", api.ErrPath)
	}
	sk, err := o.unbox(path[first], o.steps[first])
	if err != nil {
		return fault.Unfit(at(path[first].node), err, api.ErrPath)
	}
	up := above(o.t, o.i)
	for _, k := range o.privs {
		if !slices.Contains(up, k.N) {
			o.keys = append(o.keys, k)
		}
	}
	if err := o.climb(sk, o.steps[first:]); err != nil {
		return fault.Unfit("climb", err, api.ErrPath)
	}
	o.u, err = renewed(o.t, o.i, o.pub, o.steps)
	return err
}

// known tells what is wrong, unless all terms are nodes.
func (o *opener) known() error {
	l := []int{o.pub}
	for _, node := range o.t {
		if node.Kind != api.Blank {
			l = append(l, node.Pub)
		}
		if node.Kind == api.Leaf {
			l = append(l, node.Sig)
		}
	}
	for _, s := range o.steps {
		l = append(append(l, s.Pub), s.Boxes...)
	}
	for _, k := range o.privs {
		l = append(l, k.Secret)
	}
	if !parts.Are(o.a, l...) {
		return fault.Of("terms", api.ErrNone)
	}
	return nil
}

// fits tells what is wrong, unless the steps are of the path.
func (o *opener) fits(path []turn) error {
	if len(o.steps) != len(path) {
		return fault.Of("length", api.ErrLen)
	}
	for k, w := range path {
		s := o.steps[k]
		if s.Node != w.node || len(s.Boxes) != len(told(o.t, w, o.out)) {
			return fault.Of(at(w.node), api.ErrArg)
		}
		if !parts.IsPub(o.a, s.Pub) {
			return fault.Of(at(w.node), api.ErrKind)
		}
	}
	if !parts.IsPub(o.a, o.pub) {
		return fault.Of("leaf", api.ErrKind)
	}
	return nil
}

// unbox is the secret that is told at a step, by the first key that fits one of those to whom it is told.
func (o *opener) unbox(w turn, s api.Step) (int, error) {
	for r, x := range told(o.t, w, o.out) {
		k := slices.IndexFunc(o.privs, func(k api.Key) bool { return k.N == x })
		if k < 0 {
			continue
		}
		in, e := o.a.Unbox(s.Boxes[r], o.privs[k].Secret)
		if e != api.OK {
			return 0, fault.Of("box", e)
		}
		if len(in) != 1 {
			return 0, fault.Of("box", api.ErrLen)
		}
		return in[0], nil
	}
	return 0, fault.Of("keys", api.ErrNone)
}

// climb goes up the steps with the secret of the first one: each secret must fit the step's public key.
func (o *opener) climb(sk int, steps []api.Step) error {
	for _, s := range steps {
		key, pub, err := pubOf(o.a, sk)
		if err != nil {
			return fault.Wrap(at(s.Node), err)
		}
		if pub != s.Pub {
			return fault.Of(at(s.Node), api.ErrPath)
		}
		o.keys = append(o.keys, api.Key{N: s.Node, Secret: key})
		if sk, err = kdf(o.a, sk, purposeNext); err != nil {
			return fault.Wrap(at(s.Node), err)
		}
	}
	o.commit = sk
	return nil
}
