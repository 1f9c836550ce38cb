package slots

import (
	"testing"

	"tryst/api"
)

// slow is who meets whom, by the chapter's words.
func slow(members []int, place, round int) int {
	m := len(members)
	n := m + m%2
	k := round % (n - 1)
	for q := range n {
		meet := false
		switch {
		case q == place:
		case place < n-1 && q < n-1:
			meet = (place+q)%(n-1) == k
		case q == n-1:
			meet = 2*place%(n-1) == k
		default:
			meet = 2*q%(n-1) == k
		}
		if meet && q < m {
			return members[q]
		}
	}
	return -1
}

func TestP22_1Partner(t *testing.T) {
	if p, e := Partner([]int{0, 1}, 0, 7); e != api.OK || p != 1 {
		t.Error(p, e)
	}
	if p, e := Partner([]int{5}, 5, 3); e != api.OK || p != -1 {
		t.Error(p, e)
	}
	for set := 1; set < 256; set++ {
		var members []int
		for i := range 8 {
			if set>>i&1 == 1 {
				members = append(members, i)
			}
		}
		for round := range 40 {
			for place, me := range members {
				p, e := Partner(members, me, round)
				if e != api.OK || p != slow(members, place, round) {
					t.Fatal(members, me, round, p, e)
				}
			}
		}
	}
}

func TestP22_1Wrong(t *testing.T) {
	for i, c := range []struct {
		members   []int
		me, round int
		e         api.Errno
	}{
		{nil, 0, 0, api.ErrArg}, {[]int{0, 1, 2, 3, 4, 5, 6, 7, 8}, 0, 0, api.ErrArg}, {[]int{1, 0}, 0, 0, api.ErrArg}, {[]int{1, 1}, 1, 0, api.ErrArg}, {[]int{-1, 1}, 1, 0, api.ErrArg}, {[]int{1, 8}, 1, 0, api.ErrArg},
		{[]int{0, 1}, 3, -1, api.ErrArg}, {[]int{0, 1}, 2, 0, api.ErrNone}, {[]int{0, 1}, -1, 0, api.ErrNone}, {[]int{0, 1}, 0, 1<<63 - 1, api.OK},
	} {
		p, e := Partner(c.members, c.me, c.round)
		if e != c.e || e != api.OK && p != 0 {
			t.Error(i, p, e)
		}
	}
}

func TestP22_1Even(t *testing.T) {
	for round, want := range map[int]bool{0: true, 1: false, 2: true, -1: false, -2: true, 1<<63 - 1: false, -1 << 63: true} {
		if Even(round) != want {
			t.Error(round)
		}
	}
}

func TestP22_2Pairs(t *testing.T) {
	for set := 1; set < 256; set++ {
		var members []int
		for i := range 8 {
			if set>>i&1 == 1 {
				members = append(members, i)
			}
		}
		n := len(members) + len(members)%2
		met := map[[2]int]int{}
		for round := 11; round < 11+n-1; round++ {
			nobody := 0
			for _, me := range members {
				p, _ := Partner(members, me, round)
				if p == -1 {
					nobody++
					continue
				}
				back, e := Partner(members, p, round)
				if e != api.OK || back != me || p == me {
					t.Fatal(members, me, p, back)
				}
				met[[2]int{me, p}]++
			}
			if nobody != len(members)%2 {
				t.Fatal(members, nobody)
			}
		}
		for _, i := range members {
			for _, j := range members {
				if i != j && met[[2]int{i, j}] != 1 {
					t.Fatal(members, i, j)
				}
			}
		}
	}
}
