package group

import (
	"tryst/api"
	"tryst/fault"
	"tryst/parts"
	"tryst/ratchet"
	"tryst/term"
	"tryst/tree"
)

// check tells what is wrong with a member: ErrState, wherever that is.
func check(a *term.Arena, m api.Member) error {
	if e := tree.Check(m.Tree); e != api.OK {
		return fault.Of("tree", api.ErrState)
	}
	members := tree.Members(m.Tree)
	if !has(members, m.Leaf) {
		return fault.Of("leaf", api.ErrState)
	}
	leaf := m.Tree[2*m.Leaf]
	if leaf.Client != m.Client || !own(a, leaf.Sig, m.Sig) {
		return fault.Of("leaf", api.ErrState)
	}
	if m.Epoch < 0 || m.Epoch > maxEpoch {
		return fault.Of("epoch", api.ErrState)
	}
	if !parts.Are(a, terms(m)...) {
		return fault.Of("terms", api.ErrState)
	}
	if !rightChains(m, members) {
		return fault.Of("chains", api.ErrState)
	}
	if !rightKey(a, m) {
		return fault.Of("privs", api.ErrState)
	}
	return nil
}

// terms is all terms of a member.
func terms(m api.Member) []int {
	l := []int{m.Sig, m.Init, m.Secret, m.History}
	for _, node := range m.Tree {
		if node.Kind != api.Blank {
			l = append(l, node.Pub)
		}
		if node.Kind == api.Leaf {
			l = append(l, node.Sig)
		}
	}
	for _, k := range m.Privs {
		l = append(l, k.Secret)
	}
	for i, r := range m.Chains {
		if i < leaves(m.Tree) && m.Tree[2*i].Kind == api.Leaf {
			l = append(l, r.Chain)
		}
		for _, k := range r.Skipped {
			l = append(l, k.Secret)
		}
	}
	return l
}

// rightChains tells whether there is a right ratchet for each leaf that is there, and an empty one for each other.
func rightChains(m api.Member, members []int) bool {
	if len(m.Chains) != leaves(m.Tree) {
		return false
	}
	for i, r := range m.Chains {
		if has(members, i) {
			if ratchet.Check(r) != api.OK {
				return false
			}
		} else if r.Chain != 0 || r.Next != 0 || len(r.Skipped) > 0 {
			return false
		}
	}
	return true
}

// rightKey tells whether there is just one key for the own leaf, that of its Pub.
func rightKey(a *term.Arena, m api.Member) bool {
	count := 0
	for _, k := range m.Privs {
		if k.N != 2*m.Leaf {
			continue
		}
		count++
		if !own(a, m.Tree[2*m.Leaf].Pub, k.Secret) {
			return false
		}
	}
	return count == 1
}
