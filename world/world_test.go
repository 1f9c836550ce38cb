package world

import (
	"math/rand"
	"reflect"
	"slices"
	"testing"

	"tryst/api"
	"tryst/know"
	"tryst/logs"
	"tryst/pack"
	"tryst/tree"
)

// bench is a world that is played.
type bench struct {
	t *testing.T
	*World
}

func newBench(t *testing.T, n int) bench {
	t.Helper()
	w, e := New(n)
	if e != api.OK {
		t.Fatal(e)
	}
	return bench{t, w}
}

// ok does an act that must work.
func (b bench) ok(a api.Act) {
	b.t.Helper()
	if e := b.Do(a); e != api.OK {
		b.t.Fatal(a, e)
	}
}

// no does an act that must have an error.
func (b bench) no(a api.Act, want api.Errno) {
	b.t.Helper()
	if e := b.Do(a); e != want {
		b.t.Error(a, e, want)
	}
}

func (b bench) rounds(n int) {
	b.t.Helper()
	for range n {
		b.ok(api.Act{Kind: api.ActRound})
	}
}

// invite lets the client 0 bring the client i in.
func (b bench) invite(i int) {
	b.t.Helper()
	b.ok(api.Act{Kind: api.ActOffer, Client: i})
	b.ok(api.Act{Kind: api.ActInvite, Client: 0, Other: i})
	b.rounds(2)
	b.ok(api.Act{Kind: api.ActJoin, Client: i})
}

// grouped is a world of n clients that are one group.
func grouped(t *testing.T, n int) bench {
	t.Helper()
	b := newBench(t, n)
	b.ok(api.Act{Kind: api.ActCreate})
	for i := 1; i < n; i++ {
		b.invite(i)
	}
	b.rounds(2)
	return b
}

func (b bench) member(i int) api.Member {
	b.t.Helper()
	m, ok := b.Client(i).Member()
	if !ok {
		b.t.Fatal(i, "is no member")
	}
	return m
}

// atom is what a draw is.
func (b bench) atom(n int) int {
	i, _ := b.Arena().Make(api.Atom, n)
	return i
}

func TestP27_1New(t *testing.T) {
	for _, n := range []int{0, -1, 9, 1 << 62} {
		if w, e := New(n); e != api.ErrArg || w != nil {
			t.Error(n, e)
		}
	}
	b := newBench(t, 8)
	if b.Round() != 0 || len(b.Sent()) != 0 || !reflect.DeepEqual(b.Mix(), api.Mix{}) || b.Client(7) == nil || b.Client(8) != nil || b.Client(-1) != nil || b.Mails(0)+b.Mails(-1)+b.Mails(9) != 0 {
		t.Error("at first")
	}
	var pubs []int
	for s := range api.Servers {
		p, _ := b.Arena().Make(api.Pub, 0, b.atom(s+1))
		pubs = append(pubs, p)
	}
	slices.Sort(pubs)
	if !slices.Equal(b.Told(), pubs) {
		t.Error(b.Told())
	}
}

func TestP27_1Example(t *testing.T) {
	b := newBench(t, 2)
	b.ok(api.Act{Kind: api.ActCreate})
	b.ok(api.Act{Kind: api.ActOffer, Client: 1})
	b.ok(api.Act{Kind: api.ActInvite, Client: 0, Other: 1})
	b.rounds(2)
	if b.Mails(1) != 1 {
		t.Error("no mail")
	}
	b.ok(api.Act{Kind: api.ActJoin, Client: 1})
	m, n := b.member(0), b.member(1)
	if m.Epoch != 1 || n.Epoch != 1 || m.Secret != n.Secret || b.Mails(1) != 0 || b.Round() != 2 || !slices.Equal(b.Sent(), []int{2, 2}) {
		t.Error(m, n)
	}
	b.Sent()[0] = 9
	b.Told()[0] = 9
	mix := b.Mix()
	mix.Regs[0].Id, mix.Seen[0][0] = 9, 9
	if b.Sent()[0] != 2 || b.Told()[0] == 9 || b.Mix().Regs[0].Id == 9 || b.Mix().Seen[0][0] == 9 {
		t.Error("memory is shared")
	}
}

func TestP27_2Errors(t *testing.T) {
	b := newBench(t, 2)
	b.no(api.Act{}, api.ErrKind)
	b.no(api.Act{Kind: api.ActServer + 1}, api.ErrKind)
	b.no(api.Act{Kind: -1, Client: -1}, api.ErrKind)
	for kind := api.ActRound; kind <= api.ActServer; kind++ {
		for _, c := range []int{-1, 2, 1 << 62} {
			if kind != api.ActRound && kind != api.ActServer {
				b.no(api.Act{Kind: kind, Client: c}, api.ErrArg)
			} else {
				b.ok(api.Act{Kind: kind, Client: c})
			}
		}
	}
	b.no(api.Act{Kind: api.ActServer, N: 3}, api.ErrArg)
	b.no(api.Act{Kind: api.ActServer, N: -1}, api.ErrArg)
	b.no(api.Act{Kind: api.ActInvite, Other: 1}, api.ErrNone)
	b.no(api.Act{Kind: api.ActInvite, Other: 2}, api.ErrNone)
	b.no(api.Act{Kind: api.ActInvite, Other: -1}, api.ErrNone)
	b.no(api.Act{Kind: api.ActJoin}, api.ErrNone)
	b.no(api.Act{Kind: api.ActStart}, api.ErrState)
	b.no(api.Act{Kind: api.ActRenew}, api.ErrState)
	b.no(api.Act{Kind: api.ActSay}, api.ErrState)
	b.ok(api.Act{Kind: api.ActOffer, Client: 1})
	b.no(api.Act{Kind: api.ActInvite, Other: 1}, api.ErrState)
	b.ok(api.Act{Kind: api.ActCrash})
	for _, kind := range []int{api.ActCrash, api.ActTrip, api.ActReveal} {
		b.no(api.Act{Kind: kind}, api.ErrState)
	}
	for _, kind := range []int{api.ActCreate, api.ActOffer, api.ActRenew, api.ActRemove, api.ActSay, api.ActInvite} {
		b.no(api.Act{Kind: kind, Other: 1}, api.ErrOff)
	}
	b.no(api.Act{Kind: api.ActJoin}, api.ErrNone)
	b.ok(api.Act{Kind: api.ActAway})
	b.ok(api.Act{Kind: api.ActStart})
	b.no(api.Act{Kind: api.ActStart}, api.ErrState)
	b.ok(api.Act{Kind: api.ActCreate})
	b.no(api.Act{Kind: api.ActCreate}, api.ErrState)
	b.no(api.Act{Kind: api.ActRemove, Other: 1}, api.ErrNone)
	b.no(api.Act{Kind: api.ActSay, Body: -1}, api.ErrArg)
}

// TestP27_2Draws: each call that has a draw takes one, whatever it answers.
func TestP27_2Draws(t *testing.T) {
	b := newBench(t, 2)
	b.no(api.Act{Kind: api.ActInvite, Other: 1}, api.ErrNone) // no call, no draw
	b.no(api.Act{Kind: api.ActRenew}, api.ErrState)           // 100
	b.no(api.Act{Kind: api.ActSay}, api.ErrState)
	b.ok(api.Act{Kind: api.ActCrash, Client: 1})
	b.no(api.Act{Kind: api.ActOffer, Client: 1}, api.ErrOff) // 101
	b.ok(api.Act{Kind: api.ActRound})                        // 102 for the client 0 alone
	b.ok(api.Act{Kind: api.ActStart, Client: 1})
	b.ok(api.Act{Kind: api.ActOffer, Client: 1}) // 103
	if !slices.Equal(b.Client(1).Secrets(), []int{b.atom(103)}) {
		t.Error(b.Client(1).Secrets())
	}
	b.no(api.Act{Kind: api.ActInvite, Other: 1}, api.ErrState) // 104
	b.ok(api.Act{Kind: api.ActAway})
	b.rounds(1) // 105
	b.ok(api.Act{Kind: api.ActAway})
	b.rounds(1)                        // 106, 107
	b.ok(api.Act{Kind: api.ActCreate}) // 108
	key, _ := b.Arena().Make(api.Kdf, 13, b.atom(108))
	if b.member(0).Sig != key {
		t.Error("another draw")
	}
}

func TestP27_2Mails(t *testing.T) {
	b := newBench(t, 3)
	b.ok(api.Act{Kind: api.ActCreate})
	b.ok(api.Act{Kind: api.ActOffer, Client: 1})
	b.ok(api.Act{Kind: api.ActInvite, Other: 1})
	b.rounds(1)
	if b.Mails(1) != 1 || b.Mails(0)+b.Mails(2) != 0 {
		t.Error("not sent behind the round")
	}
	b.ok(api.Act{Kind: api.ActCrash, Client: 1})
	b.no(api.Act{Kind: api.ActJoin, Client: 1}, api.ErrOff)
	if b.Mails(1) != 0 {
		t.Error("it goes, whatever the answer is")
	}
	b.ok(api.Act{Kind: api.ActStart, Client: 1})
	b.no(api.Act{Kind: api.ActJoin, Client: 1}, api.ErrNone)
}

// TestP27_2Told: the enemy is told what goes over the links, and no more.
func TestP27_2Told(t *testing.T) {
	b := newBench(t, 2)
	b.ok(api.Act{Kind: api.ActCreate})
	before := b.Told()
	if len(before) != 3 {
		t.Error("Create tells something")
	}
	b.ok(api.Act{Kind: api.ActOffer, Client: 1})
	offered := fresh(before, b.Told())
	if len(offered) != 1 {
		t.Fatal(offered)
	}
	if n, _ := b.Arena().Node(offered[0]); n.Kind != api.Sig || len(n.Args) != 5 {
		t.Error("not the package")
	}
	before = b.Told()
	b.ok(api.Act{Kind: api.ActInvite, Other: 1})
	if len(fresh(before, b.Told())) != 0 {
		t.Error("Invite tells something ahead of the commit")
	}
	b.ok(api.Act{Kind: api.ActRound})
	kinds := map[int]int{}
	for _, i := range fresh(before, b.Told()) {
		n, _ := b.Arena().Node(i)
		kinds[n.Kind]++
	}
	// two onions with the layers that servers saw; two answers, three seals each; one mail
	if kinds[api.Box] != 6 || kinds[api.Seal] != 6 || kinds[api.Sig] != 1 || len(kinds) != 3 {
		t.Error(kinds)
	}
	before = b.Told()
	b.ok(api.Act{Kind: api.ActRound, Lost: []bool{true, false}})
	kinds = map[int]int{}
	for _, i := range fresh(before, b.Told()) {
		n, _ := b.Arena().Node(i)
		kinds[n.Kind]++
	}
	if kinds[api.Box] != 4 || kinds[api.Seal] != 3 || len(kinds) != 2 {
		t.Error(kinds)
	}
	before = b.Told()
	b.ok(api.Act{Kind: api.ActServer, N: 1})
	if !slices.Equal(fresh(before, b.Told()), []int{b.atom(2)}) {
		t.Error("the server's secret")
	}
	before = b.Told()
	b.ok(api.Act{Kind: api.ActReveal})
	m := b.member(0)
	tt, _ := tree.Term(b.Arena(), m.Tree)
	want := append(b.Client(0).Secrets(), tt, m.History)
	slices.Sort(want)
	if !slices.Equal(fresh(before, b.Told()), slices.Compact(want)) {
		t.Error("what is revealed")
	}
	before = b.Told()
	b.ok(api.Act{Kind: api.ActReveal, Client: 1})
	if !slices.Equal(fresh(before, b.Told()), b.Client(1).Secrets()) {
		t.Error("what is revealed of who is no member")
	}
}

// fresh is what is in l, and was not in old.
func fresh(old, l []int) []int {
	var out []int
	for _, i := range l {
		if !slices.Contains(old, i) {
			out = append(out, i)
		}
	}
	return out
}

func TestP27_2Round(t *testing.T) {
	b := grouped(t, 3)
	b.no(api.Act{Kind: api.ActRound, Inject: slices.Repeat([]int{0}, 51)}, api.ErrArg)
	b.no(api.Act{Kind: api.ActRound, Inject: []int{-1}}, api.ErrArg)
	b.no(api.Act{Kind: api.ActRound, Inject: []int{b.Arena().Len()}}, api.ErrArg)
	b.no(api.Act{Kind: api.ActRound, Inject: []int{b.member(0).Secret}}, api.ErrArg)
	word, _ := b.Arena().Make(api.Word, 0)
	b.no(api.Act{Kind: api.ActRound, Inject: slices.Repeat([]int{word}, 51)}, api.ErrArg)
	round, sent := b.Round(), len(b.Sent())
	b.ok(api.Act{Kind: api.ActRound, Inject: slices.Repeat([]int{word}, 50)})
	if b.Round() != round+1 || len(b.Sent()) != sent+1 || b.Sent()[sent] != 3 {
		t.Error(b.Sent())
	}
	b.ok(api.Act{Kind: api.ActAway, Client: 1})
	b.ok(api.Act{Kind: api.ActCrash, Client: 2})
	b.ok(api.Act{Kind: api.ActRound, Lost: []bool{true}})
	if b.Sent()[sent+1] != 1 {
		t.Error(b.Sent())
	}
	// an answer that does not come back changes nothing
	b.ok(api.Act{Kind: api.ActRenew})
	b.rounds(b.Round() % 2)
	epoch := b.member(0).Epoch
	b.ok(api.Act{Kind: api.ActRound, Back: []bool{true}})
	if b.member(0).Epoch != epoch || !b.Client(0).Waits() || b.Sent()[len(b.Sent())-1] != 1 {
		t.Error("the answer came")
	}
	b.rounds(2)
	if b.member(0).Epoch != epoch+1 || b.Client(0).Waits() {
		t.Error("the answer did not come")
	}
}

// TestP27_2Perms: what is no permutation is none; with any the answers come to their places.
func TestP27_2Perms(t *testing.T) {
	r := rand.New(rand.NewSource(1))
	for _, perms := range [][][]int{nil, {{1, 0}}, {{0, 0, 1}, {0, 1, 2}, {0, 1, 2}}, {{0, 1}, {0, 1}, {0, 1}}, {{0, 1, 3}, {0, 1, 2}, {0, 1, 2}}, {r.Perm(3), r.Perm(3), r.Perm(3)}, {{2, 1, 0}, {1, 2, 0}, {0, 2, 1}, {0, 1, 2}}} {
		b := grouped(t, 3)
		b.ok(api.Act{Kind: api.ActSay, Client: 2, Body: 7})
		for range 12 {
			b.ok(api.Act{Kind: api.ActRound, Perms: perms})
		}
		for i := range 3 {
			if logs.Have(b.Client(i).Logs())[2] != 1 {
				t.Error(perms, i)
			}
		}
	}
	// two write one register: which one comes first is what the permutations say
	for _, turned := range []bool{false, true} {
		b := grouped(t, 2)
		b.rounds(b.Round() % 2)
		b.ok(api.Act{Kind: api.ActRenew, Client: 0})
		b.ok(api.Act{Kind: api.ActRenew, Client: 1})
		perms := [][]int{{0, 1}, {0, 1}, {0, 1}}
		first := 0
		if turned {
			perms[1], first = []int{1, 0}, 1
		}
		b.ok(api.Act{Kind: api.ActRound, Perms: perms})
		regs := b.Mix().Regs
		c, _, e := pack.ReadCommit(b.Arena(), regs[len(regs)-1].Value)
		if e != api.OK || c.From != b.member(first).Leaf || b.member(0).Secret != b.member(1).Secret || b.Client(0).Waits() || b.Client(1).Waits() {
			t.Error(turned, c.From, e)
		}
	}
}

// TestP27_2Crash: who crashes in an act comes back as ahead of it, or behind it.
func TestP27_2Crash(t *testing.T) {
	for trip := 1; trip < 30; trip++ {
		b := grouped(t, 2)
		b.ok(api.Act{Kind: api.ActTrip, Client: 1, N: trip, Keep: slices.Repeat([]bool{trip%2 == 0}, 40), Torn: trip % 7})
		b.Do(api.Act{Kind: api.ActSay, Client: 1, Body: 3})
		b.Do(api.Act{Kind: api.ActRenew, Client: 1})
		b.rounds(3)
		if b.Client(1).Down() {
			b.ok(api.Act{Kind: api.ActStart, Client: 1})
		} else {
			b.ok(api.Act{Kind: api.ActCrash, Client: 1})
			b.ok(api.Act{Kind: api.ActStart, Client: 1})
		}
		b.rounds(10)
		m, n := b.member(0), b.member(1)
		if m.Epoch != n.Epoch || m.Secret != n.Secret || !reflect.DeepEqual(logs.Have(b.Client(0).Logs()), logs.Have(b.Client(1).Logs())) {
			t.Error(trip)
		}
	}
}

// turmoil plays random acts on a world, and tells how often each worked.
func turmoil(b bench, r *rand.Rand, acts int, hostile bool) map[int]int {
	done := map[int]int{}
	n := 0
	for b.Client(n) != nil {
		n++
	}
	bools := func(odds int) []bool {
		l := make([]bool, 40)
		for i := range l {
			l[i] = r.Intn(odds) == 0
		}
		return l
	}
	for range acts {
		a := api.Act{Kind: api.ActRound, Client: r.Intn(n), Other: r.Intn(n), Body: r.Intn(100)}
		switch x := r.Intn(30); {
		case x < 12:
			a.Lost, a.Back = bools(6), bools(6)
			came := n
			a.Perms = [][]int{r.Perm(came), r.Perm(came), r.Perm(came)}
			if told := b.Told(); hostile && r.Intn(2) == 0 {
				for range r.Intn(4) {
					a.Inject = append(a.Inject, told[r.Intn(len(told))])
				}
			}
		case x < 14:
			a.Kind = api.ActOffer
		case x < 17:
			a.Kind = api.ActInvite
		case x < 18:
			a.Kind = api.ActRemove
		case x < 20:
			a.Kind = api.ActRenew
		case x < 22:
			a.Kind = api.ActSay
		case x < 24:
			a.Kind = api.ActJoin
		case x < 25:
			a.Kind, a.N, a.Keep, a.Torn = api.ActTrip, r.Intn(40), bools(2), r.Intn(40)-20
		case x < 28:
			a.Kind = api.ActStart
		case x < 29:
			a.Kind = api.ActAway
		default:
			a.Kind = api.ActCrash
		}
		if hostile && r.Intn(60) == 0 {
			a.Kind, a.N = api.ActReveal+r.Intn(2), r.Intn(api.Servers)
		}
		if b.Do(a) == api.OK {
			done[a.Kind]++
		}
	}
	return done
}

// calm brings all back, and lets what is under way come to its end.
func calm(b bench) {
	for i := 0; b.Client(i) != nil; i++ {
		b.Do(api.Act{Kind: api.ActTrip, Client: i})
		b.Do(api.Act{Kind: api.ActStart, Client: i})
		if b.people[i].away {
			b.ok(api.Act{Kind: api.ActAway, Client: i})
		}
	}
}

// TestP27_3Agree (T1, T4): whoever holds one epoch, with one history, holds all of it alike; one onion each.
func TestP27_3Agree(t *testing.T) {
	for seed := range 40 {
		r := rand.New(rand.NewSource(int64(seed)))
		b := newBench(t, 4)
		b.ok(api.Act{Kind: api.ActCreate})
		type key struct{ epoch, history int }
		held := map[key]api.Member{}
		for range 60 {
			turmoil(b, r, 5, seed%2 == 1)
			for i := range 4 {
				m, ok := b.Client(i).Member()
				if !ok {
					continue
				}
				n, seen := held[key{m.Epoch, m.History}]
				if seen && (m.Secret != n.Secret || m.Init != n.Init || len(m.Tree) != len(n.Tree) || len(m.Chains) != len(n.Chains)) {
					t.Fatal(seed, "they differ")
				}
				held[key{m.Epoch, m.History}] = m
			}
		}
		for _, n := range b.Sent() {
			if n > 4 {
				t.Fatal("more onions than clients")
			}
		}
		if len(b.Sent()) != b.Round() {
			t.Fatal("Sent")
		}
	}
}

// TestP27_3Secret (T2): of an epoch of whose members none was revealed the secret is not known.
func TestP27_3Secret(t *testing.T) {
	for seed := range 10 {
		r := rand.New(rand.NewSource(int64(seed)))
		b := newBench(t, 3)
		b.ok(api.Act{Kind: api.ActCreate})
		for s := range api.Servers {
			b.ok(api.Act{Kind: api.ActServer, N: s})
		}
		turmoil(b, r, 200, false)
		known, e := know.All(b.Arena(), b.Told())
		if e != api.OK {
			t.Fatal(e)
		}
		for i := range 3 {
			for _, s := range b.Client(i).Secrets() {
				if known[s] {
					t.Fatal(seed, "a secret is known")
				}
			}
		}
		b.Do(api.Act{Kind: api.ActStart})
		b.ok(api.Act{Kind: api.ActReveal})
		known, _ = know.All(b.Arena(), b.Told())
		for _, s := range b.Client(0).Secrets() {
			if !known[s] {
				t.Fatal("what is revealed is not known")
			}
		}
	}
}

// TestP27_3Traffic (T4): who is there sends one onion a round, whatever is said or done.
func TestP27_3Traffic(t *testing.T) {
	b := newBench(t, 3)
	for i, a := range []api.Act{{Kind: api.ActCreate}, {Kind: api.ActOffer, Client: 1}, {Kind: api.ActInvite, Other: 1}, {Kind: api.ActSay, Body: 4}, {Kind: api.ActRenew}, {Kind: api.ActSay, Body: 9}} {
		b.Do(a)
		b.rounds(1)
		if b.Sent()[i] != 3 {
			t.Error(i)
		}
	}
}

// TestP27_3Calm (T5): in calm all come to one epoch, and have all messages, within the bound.
func TestP27_3Calm(t *testing.T) {
	for seed := range 20 {
		r := rand.New(rand.NewSource(int64(seed)))
		n := 2 + r.Intn(4)
		b := grouped(t, n)
		for range 10 + r.Intn(60) {
			a := api.Act{Kind: api.ActRound, Client: r.Intn(n), Body: r.Intn(100)}
			switch r.Intn(8) {
			case 0:
				a.Kind = api.ActRenew
			case 1, 2:
				a.Kind = api.ActSay
			case 3:
				a.Kind = api.ActAway
			case 4:
				a.Kind, a.N, a.Torn = api.ActTrip, r.Intn(60), r.Intn(20)-10
			case 5:
				a.Kind = api.ActStart
			default:
				a.Lost, a.Back = []bool{r.Intn(3) == 0, r.Intn(3) == 0}, []bool{r.Intn(3) == 0, r.Intn(3) == 0}
			}
			b.Do(a)
		}
		calm(b)
		for waits := true; waits; {
			waits = false
			for i := range n {
				waits = waits || b.Client(i).Waits()
			}
			if waits {
				b.rounds(1)
			}
		}
		bound := bound(b, n)
		b.rounds(bound)
		first := b.member(0)
		for i := range n {
			m := b.member(i)
			if m.Epoch != first.Epoch || m.Secret != first.Secret || !slices.Equal(logs.Have(b.Client(i).Logs()), logs.Have(b.Client(0).Logs())) {
				t.Fatal(seed, i, "not within the bound", bound)
			}
		}
	}
}

// bound is how many rounds calm may take.
func bound(b bench, n int) int {
	least, most := b.member(0).Epoch, b.member(0).Epoch
	all := make([]int, api.MaxClients)
	for i := range n {
		epoch := b.member(i).Epoch
		least, most = min(least, epoch), max(most, epoch)
		for c, have := range logs.Have(b.Client(i).Logs()) {
			all[c] = max(all[c], have)
		}
	}
	lacks := 0
	for i := range n {
		for c, have := range logs.Have(b.Client(i).Logs()) {
			lacks += all[c] - have
		}
	}
	return 8 + 2*(most-least) + 8*n*(lacks+2)
}
