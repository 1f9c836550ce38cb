package copies

import (
	"reflect"
	"testing"

	"tryst/api"
)

// some is a member with a list of each kind.
func some() api.Member {
	return api.Member{
		Client: 1,
		Tree:   []api.Node{{Kind: api.Parent, Unmerged: []int{1, 2}}},
		Privs:  []api.Key{{N: 1, Secret: 2}},
		Chains: []api.Ratchet{{Chain: 1, Skipped: []api.Key{{N: 3, Secret: 4}}}},
	}
}

func TestMember(t *testing.T) {
	m := some()
	c := Member(m)
	if !reflect.DeepEqual(c, m) {
		t.Error(c)
	}
	c.Tree[0].Unmerged[0], c.Privs[0].N, c.Chains[0].Skipped[0].N = 9, 9, 9
	c.Tree[0].Kind, c.Chains[0].Next = 9, 9
	if !reflect.DeepEqual(m, some()) {
		t.Error("memory is shared")
	}
}

func TestLogsMix(t *testing.T) {
	l := []api.Log{{Client: 1, Bodies: []int{1}}}
	k := Logs(l)
	k[0].Bodies[0], k[0].Base = 9, 9
	if !reflect.DeepEqual(l, []api.Log{{Client: 1, Bodies: []int{1}}}) {
		t.Error("memory is shared")
	}
	m := api.Mix{Regs: []api.Reg{{Id: 1, Value: 2}}, Seen: [api.Servers][]int{{1}, {2}, {3}}}
	n := Mix(m)
	n.Regs[0].Id, n.Seen[2][0] = 9, 9
	if m.Regs[0].Id != 1 || m.Seen[2][0] != 3 {
		t.Error("memory is shared")
	}
}
