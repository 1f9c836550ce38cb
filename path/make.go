package path

import (
	"tryst/api"
	"tryst/fault"
	"tryst/parts"
	"tryst/term"
)

// maker makes the steps of the leaf i, and what they lead to.
type maker struct {
	a   *term.Arena
	t   []api.Node
	i   int
	out []int

	u      []api.Node
	steps  []api.Step
	privs  []api.Key
	commit int
}

// build makes all of it out of secret.
func (m *maker) build(secret int) error {
	if err := there(m.t, m.i); err != nil {
		return err
	}
	if err := m.check(secret); err != nil {
		return err
	}
	key, pub, err := pubOf(m.a, secret)
	if err != nil {
		return fault.Wrap("leaf", err)
	}
	m.privs = []api.Key{{N: 2 * m.i, Secret: key}}
	sk, err := kdf(m.a, secret, purposeNext)
	if err != nil {
		return fault.Wrap("leaf", err)
	}
	for _, w := range turns(m.t, m.i) {
		if err := m.step(w, sk); err != nil {
			return fault.Wrap(at(w.node), err)
		}
		if sk, err = kdf(m.a, sk, purposeNext); err != nil {
			return fault.Wrap(at(w.node), err)
		}
	}
	m.commit = sk
	m.u, err = renewed(m.t, m.i, pub, m.steps)
	return err
}

// check tells what is wrong with what is handed in.
func (m *maker) check(secret int) error {
	for _, node := range m.t {
		if node.Kind != api.Blank && !parts.Are(m.a, node.Pub) {
			return fault.Of("pub", api.ErrNone)
		}
	}
	if !parts.Are(m.a, secret) {
		return fault.Of("secret", api.ErrNone)
	}
	for _, w := range turns(m.t, m.i) {
		for _, x := range told(m.t, w, m.out) {
			if !parts.IsPub(m.a, m.t[x].Pub) {
				return fault.Of(at(x), api.ErrKind)
			}
		}
	}
	return nil
}

// step makes the step of a node with the secret sk.
func (m *maker) step(w turn, sk int) error {
	key, pub, err := pubOf(m.a, sk)
	if err != nil {
		return err
	}
	var boxes []int
	for r, x := range told(m.t, w, m.out) {
		with, err := kdf(m.a, sk, purposeBox+r)
		if err != nil {
			return err
		}
		b, e := m.a.Make(api.Box, 0, m.t[x].Pub, with, sk)
		if e != api.OK {
			return fault.Of("box", e)
		}
		boxes = append(boxes, b)
	}
	m.steps = append(m.steps, api.Step{Node: w.node, Pub: pub, Boxes: boxes})
	m.privs = append(m.privs, api.Key{N: w.node, Secret: key})
	return nil
}
