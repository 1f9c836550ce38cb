// Package copies makes copies that share no memory with what they are of.
package copies

import (
	"slices"

	"tryst/api"
)

// Tree is a copy of a tree.
func Tree(t []api.Node) []api.Node {
	u := slices.Clone(t)
	for x := range u {
		u[x].Unmerged = slices.Clone(u[x].Unmerged)
	}
	return u
}

// Chains is a copy of some ratchets.
func Chains(l []api.Ratchet) []api.Ratchet {
	m := slices.Clone(l)
	for i := range m {
		m[i].Skipped = slices.Clone(m[i].Skipped)
	}
	return m
}

// Member is a copy of a member.
func Member(m api.Member) api.Member {
	m.Tree = Tree(m.Tree)
	m.Privs = slices.Clone(m.Privs)
	m.Chains = Chains(m.Chains)
	return m
}

// Logs is a copy of some logs.
func Logs(l []api.Log) []api.Log {
	m := slices.Clone(l)
	for i := range m {
		m[i].Bodies = slices.Clone(m[i].Bodies)
	}
	return m
}

// Mix is a copy of what servers hold.
func Mix(m api.Mix) api.Mix {
	m.Regs = slices.Clone(m.Regs)
	for i := range m.Seen {
		m.Seen[i] = slices.Clone(m.Seen[i])
	}
	return m
}
