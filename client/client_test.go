package client

import (
	"math/rand"
	"reflect"
	"slices"
	"testing"

	"tryst/api"
	"tryst/disk"
	"tryst/group"
	"tryst/logs"
	"tryst/mix"
	"tryst/onion"
	"tryst/pack"
	"tryst/ratchet"
	"tryst/sched"
	"tryst/slots"
	"tryst/store"
	"tryst/term"
	"tryst/tree"
)

// fleet is some clients, with the servers between them.
type fleet struct {
	t       *testing.T
	a       *term.Arena
	disks   []*disk.Disk
	clients []*Client
	secrets []int
	pubs    []int
	st      api.Mix
	round   int
	draws   int
	mails   map[int][]int
	arm     func(d *disk.Disk) // arms a crash
}

func newFleet(t *testing.T, n int) *fleet {
	f := &fleet{t: t, a: term.New(), mails: map[int][]int{}}
	for s := range api.Servers {
		f.secrets = append(f.secrets, f.put(api.Atom, s+1))
		f.pubs = append(f.pubs, f.put(api.Pub, 0, f.secrets[s]))
	}
	for i := range n {
		d, e := disk.New(300)
		if e != api.OK {
			t.Fatal(e)
		}
		f.disks = append(f.disks, d)
		f.clients = append(f.clients, nil)
		f.reopen(i)
	}
	return f
}

func (f *fleet) put(kind, n int, args ...int) int {
	f.t.Helper()
	i, e := f.a.Make(kind, n, args...)
	if e != api.OK {
		f.t.Fatal(kind, n, args, e)
	}
	return i
}

func (f *fleet) word(n int) int { return f.put(api.Word, n) }

func (f *fleet) words(l []int) int {
	var args []int
	for _, n := range l {
		args = append(args, f.word(n))
	}
	return f.put(api.List, 0, args...)
}

func (f *fleet) draw() int {
	f.draws++
	return f.put(api.Atom, 100+f.draws)
}

// reopen opens the client i anew, with power.
func (f *fleet) reopen(i int) {
	f.t.Helper()
	f.disks[i].Start()
	c, e := Open(f.a, f.disks[i], i, f.pubs)
	if e != api.OK {
		f.t.Fatal(e)
	}
	f.clients[i] = c
}

func (f *fleet) must(e api.Errno) {
	f.t.Helper()
	if e != api.OK {
		f.t.Fatal(e)
	}
}

// post takes the mails of all who have power.
func (f *fleet) post() {
	for _, c := range f.clients {
		l, e := c.Mails()
		if e != api.OK {
			continue
		}
		for _, m := range l {
			f.mails[m.Client] = append(f.mails[m.Client], m.Term)
		}
	}
}

// run is a round: answers tells what each client was answered, -1 if it sent nothing.
func (f *fleet) run() (onions, answers []int) {
	f.t.Helper()
	var in, who, same []int
	onions, answers = slices.Repeat([]int{-1}, len(f.clients)), slices.Repeat([]int{-1}, len(f.clients))
	for i, c := range f.clients {
		if o, e := c.Request(f.round, f.draw()); e == api.OK {
			same = append(same, len(in))
			in, who = append(in, o), append(who, i)
			onions[i] = o
		}
	}
	next, out, e := mix.Round(f.a, f.st, f.secrets, in, [][]int{same, same, same})
	f.must(e)
	f.st = next
	for k, i := range who {
		answers[i] = out[k]
	}
	return onions, answers
}

// step is a round, with all answers told.
func (f *fleet) step() {
	f.t.Helper()
	_, answers := f.run()
	for i, x := range answers {
		if x >= 0 {
			f.clients[i].Answer(f.round, x)
		}
	}
	f.round++
	f.post()
}

// join lets the client i come into the group of the client 0.
func (f *fleet) join(i int) {
	f.t.Helper()
	p, e := f.clients[i].Offer(f.draw())
	f.must(e)
	f.must(f.clients[0].Invite(p, f.draw()))
	for f.round%2 != 0 {
		f.step()
	}
	f.step()
	f.must(f.clients[i].Join(f.mails[i][0]))
	f.mails[i] = f.mails[i][1:]
}

// grouped is a fleet of which all are in one group.
func grouped(t *testing.T, n int) *fleet {
	t.Helper()
	f := newFleet(t, n)
	f.must(f.clients[0].Create(f.draw()))
	for i := 1; i < n; i++ {
		f.join(i)
	}
	f.step()
	f.step()
	f.agree()
	return f
}

// agree asks that all clients are members of one epoch.
func (f *fleet) agree() {
	f.t.Helper()
	m, _ := f.clients[0].Member()
	for i, c := range f.clients {
		n, ok := c.Member()
		if !ok || n.Epoch != m.Epoch || n.Secret != m.Secret || n.History != m.History || n.Init != m.Init || n.Client != i {
			f.t.Fatal(i, ok, n.Epoch, m.Epoch)
		}
	}
}

// all is all that can be told of a client.
func all(c *Client) []any {
	m, ok := c.Member()
	return []any{m, ok, c.Logs(), c.Waits(), c.Secrets(), c.st.told, c.st.mails, c.st.offer, c.st.wait}
}

func same(x, y []any) bool { return reflect.DeepEqual(normal(x), normal(y)) }

// normal is what was told, nil being an empty list.
func normal(l []any) state {
	st := state{member: l[0].(api.Member), in: l[1].(bool), logs: l[2].([]api.Log), waits: l[3].(bool), told: l[5].([api.MaxClients][]int), mails: l[6].([]api.Mail), offer: l[7].(int), wait: l[8].(waiting)}
	return must(decode(encode(st), 0))
}

func must(st state, err error) state {
	if err != nil {
		panic(err)
	}
	return st
}

func TestP26_1Open(t *testing.T) {
	f := newFleet(t, 1)
	few, _ := disk.New(299)
	d, _ := disk.New(300)
	off, _ := disk.New(300)
	off.Crash(nil, -1)
	for i, c := range []struct {
		d       *disk.Disk
		id      int
		servers []int
		e       api.Errno
	}{
		{d, 0, f.pubs, api.OK}, {d, 7, f.pubs, api.OK}, {off, -1, f.pubs, api.ErrArg}, {d, 8, f.pubs, api.ErrArg}, {d, 0, f.pubs[:2], api.ErrArg}, {d, 0, append(slices.Clone(f.pubs), f.pubs[0]), api.ErrArg}, {off, 0, f.secrets, api.ErrArg},
		{d, 0, []int{f.pubs[0], f.pubs[1], 1 << 40}, api.ErrArg}, {d, 0, []int{f.pubs[0], f.pubs[1], -1}, api.ErrArg}, {off, 0, f.pubs, api.ErrOff}, {few, 0, f.pubs, api.ErrFull},
	} {
		got, e := Open(f.a, c.d, c.id, c.servers)
		if e != c.e || (got == nil) != (e != api.OK) {
			t.Error(i, e)
		}
	}
	c := f.clients[0]
	m, ok := c.Member()
	if ok || !reflect.DeepEqual(m, api.Member{}) || len(c.Logs()) != 0 || c.Waits() || len(c.Secrets()) != 0 || c.Down() {
		t.Error("a new client")
	}
	f.disks[0].Crash(nil, -1)
	if !c.Down() {
		t.Error("not down")
	}
}

func TestP26_1Kept(t *testing.T) {
	f := grouped(t, 3)
	f.clients[0].Say(5)
	f.clients[1].Renew(f.draw())
	f.clients[2].Say(6)
	for range 7 {
		f.step()
	}
	f.clients[2].Remove(1, f.draw())
	for i, c := range f.clients {
		before := all(c)
		f.reopen(i)
		if !same(before, all(f.clients[i])) {
			t.Error(i)
		}
		if f.clients[i].Answer(f.round, 0) != api.ErrState {
			t.Error("something has been asked")
		}
	}
}

func TestP26_1NothingShared(t *testing.T) {
	f := grouped(t, 2)
	c := f.clients[0]
	c.Say(3)
	before := encode(c.st)
	m, _ := c.Member()
	m.Tree[0].Client, m.Privs[0].Secret, m.Chains[1].Chain = 9, 9, 9
	c.Logs()[0].Bodies[0] = 9
	c.Secrets()[0] = 9
	if !slices.Equal(before, encode(c.st)) {
		t.Error("memory is shared")
	}
	d, _ := disk.New(300)
	servers := slices.Clone(f.pubs)
	other, e := Open(f.a, d, 1, servers)
	f.must(e)
	servers[0] = -1
	if _, e := other.Request(0, f.draw()); e != api.OK {
		t.Error("what was handed in is kept", e)
	}
}

func TestP26_1Secrets(t *testing.T) {
	f := grouped(t, 2)
	a, b := f.clients[0], f.clients[1]
	b.Say(1)
	for range 6 {
		f.step()
	}
	a.Renew(f.draw())
	m, _ := a.Member()
	n, e := group.Process(f.a, func() api.Member { m, _ := b.Member(); return m }(), a.st.wait.commit)
	f.must(e)
	want := []int{m.Sig, m.Init, m.Secret, n.Init, n.Secret, n.Chains[0].Chain, n.Chains[1].Chain}
	for _, k := range append(m.Privs, a.st.wait.next.Privs...) {
		want = append(want, k.Secret)
	}
	for _, r := range m.Chains {
		want = append(want, r.Chain)
		for _, k := range r.Skipped {
			want = append(want, k.Secret)
		}
	}
	slices.Sort(want)
	if !slices.Equal(a.Secrets(), slices.Compact(want)) {
		t.Error(a.Secrets(), want)
	}
	fresh := newFleet(t, 1)
	d := fresh.draw()
	fresh.clients[0].Offer(d)
	if !slices.Equal(fresh.clients[0].Secrets(), []int{d}) {
		t.Error("the last offer's secret")
	}
	fresh.must(fresh.clients[0].Create(fresh.draw()))
	if !slices.Contains(fresh.clients[0].Secrets(), d) {
		t.Error("the last offer's secret stays")
	}
}

func TestP26_2States(t *testing.T) {
	f := newFleet(t, 2)
	a, b := f.clients[0], f.clients[1]
	d := f.draw()
	number := func(_ int, e api.Errno) api.Errno { return e }
	for i, e := range []api.Errno{a.Invite(d, d), a.Remove(0, d), a.Renew(d), number(a.Say(1))} {
		if e != api.ErrState {
			t.Error(i, e)
		}
	}
	for i, e := range []api.Errno{a.Invite(-1, d), a.Invite(d, 1<<40), a.Remove(0, -1), a.Renew(1 << 40), number(a.Offer(-1)), a.Create(1 << 40), a.Join(-1)} {
		if e != api.ErrNone {
			t.Error(i, e)
		}
	}
	s := f.draw()
	p, e := b.Offer(s)
	want, _ := pack.Package(f.a, 1, s)
	if e != api.OK || p != want.Term {
		t.Error(p, e)
	}
	f.must(a.Create(d))
	m, ok := a.Member()
	made, _ := group.Create(f.a, 0, d)
	if !ok || !reflect.DeepEqual(m, made) {
		t.Error(m)
	}
	for i, e := range []api.Errno{number(a.Offer(d)), a.Create(d), a.Join(d)} {
		if e != api.ErrState {
			t.Error(i, e)
		}
	}
	for i, e := range []api.Errno{number(a.Offer(-1)), a.Create(-1), a.Join(1 << 40)} {
		if e != api.ErrNone {
			t.Error(i, e)
		}
	}
	if e := a.Remove(1, d); e != api.ErrNone {
		t.Error(e)
	}
	if e := a.Remove(0, d); e != api.ErrArg {
		t.Error(e)
	}
	if e := a.Invite(d, d); e != api.ErrKind {
		t.Error(e)
	}
	own, _ := pack.Package(f.a, 0, s)
	if e := a.Invite(own.Term, d); e != api.ErrTwice || a.Waits() {
		t.Error(e)
	}
	f.must(a.Invite(p, f.draw()))
	if !a.Waits() {
		t.Error("nothing waits")
	}
	for i, e := range []api.Errno{a.Invite(p, d), a.Remove(5, d), a.Renew(d)} {
		if e != api.ErrState {
			t.Error(i, e)
		}
	}
	for i, want := range []int{1, 2, 3} {
		if n, e := a.Say(i); e != api.OK || n != want {
			t.Error(n, e)
		}
	}
	if n, e := a.Say(-1); e != api.ErrArg || n != 0 {
		t.Error(e)
	}
	if n, e := a.Say(api.MaxBody + 1); e != api.ErrArg || n != 0 {
		t.Error(e)
	}
	for range 29 {
		a.Say(7)
	}
	if n, e := a.Say(7); e != api.ErrLong || n != 0 {
		t.Error(e)
	}
}

func TestP26_2InviteMail(t *testing.T) {
	f := newFleet(t, 2)
	a, b := f.clients[0], f.clients[1]
	f.must(a.Create(f.draw()))
	a.Say(4)
	p, _ := b.Offer(f.draw())
	m, _ := a.Member()
	d := f.draw()
	f.must(a.Invite(p, d))
	a.Say(5)
	commit, welcomes, next, _ := group.Commit(f.a, m, []int{p}, nil, d)
	if l, e := a.Mails(); e != api.OK || len(l) != 0 {
		t.Error("a mail ahead of the commit", l, e)
	}
	f.step()
	got, _ := a.Member()
	if got.Secret != next.Secret || a.Waits() {
		t.Error("the commit did not come")
	}
	mail := f.put(api.Sig, 0, m.Sig, f.word(33), welcomes[0], f.words([]int{1, 0, 0, 0, 0, 0, 0, 0}))
	if !slices.Equal(f.mails[1], []int{mail}) || len(f.mails) != 1 {
		t.Error(f.mails, mail)
	}
	if l, e := a.Mails(); e != api.OK || len(l) != 0 {
		t.Error("mails are told twice")
	}
	if len(f.st.Regs) != 1 || f.st.Regs[0].Value != commit {
		t.Error(f.st.Regs)
	}
	f.must(b.Join(mail))
	if !reflect.DeepEqual(logs.Have(b.Logs()), []int{1, 0, 0, 0, 0, 0, 0, 0}) {
		t.Error(b.Logs())
	}
}

func TestP26_2CreateLogs(t *testing.T) {
	f := grouped(t, 2)
	a, b := f.clients[0], f.clients[1]
	b.Say(7)
	a.Say(8)
	for range 8 {
		f.step()
	}
	if !slices.Equal(logs.Have(b.Logs()), []int{1, 1, 0, 0, 0, 0, 0, 0}) || b.st.told[0] == nil {
		t.Fatal(b.Logs())
	}
	f.must(a.Remove(1, f.draw()))
	for range 4 {
		f.step()
	}
	if _, ok := b.Member(); ok || len(b.Logs()) == 0 || b.Waits() {
		t.Error("still a member, or its logs are gone")
	}
	f.must(b.Create(f.draw()))
	if !slices.Equal(logs.Have(b.Logs()), []int{0, 1, 0, 0, 0, 0, 0, 0}) || b.st.told[0] != nil {
		t.Error(b.Logs())
	}
}

func TestP26_3Join(t *testing.T) {
	f := newFleet(t, 3)
	a, b := f.clients[0], f.clients[1]
	f.must(a.Create(f.draw()))
	if e := b.Join(f.draw()); e != api.ErrState {
		t.Error("without an offer", e)
	}
	s := f.draw()
	p, _ := b.Offer(s)
	f.must(a.Invite(p, f.draw()))
	f.step()
	mail := f.mails[1][0]
	n, _ := f.a.Node(mail)
	signer, w33, welcome, have := n.Args[0], n.Args[1], n.Args[2], n.Args[3]
	sig := func(l ...int) int { return f.put(api.Sig, 0, l...) }
	big := f.words([]int{0, 0, 1<<30 + 1, 0, 0, 0, 0, 0})
	for i, c := range []struct {
		mail int
		e    api.Errno
	}{
		{welcome, api.ErrKind}, {sig(signer, w33, welcome), api.ErrKind}, {sig(signer, w33, welcome, have, have), api.ErrKind}, {sig(signer, f.word(34), welcome, have), api.ErrKind}, {sig(signer, s, welcome, have), api.ErrKind},
		{sig(signer, w33, welcome, f.words(make([]int, 7))), api.ErrKind}, {sig(signer, w33, welcome, f.put(api.List, 0, s, s, s, s, s, s, s, s)), api.ErrKind}, {sig(signer, w33, welcome, s), api.ErrKind}, {f.put(api.Seal, 0, signer, w33, welcome, have), api.ErrKind},
		{sig(signer, w33, s, have), api.ErrKind}, {sig(s, w33, welcome, have), api.ErrSign}, {sig(s, w33, welcome, big), api.ErrSign}, {sig(signer, w33, welcome, big), api.ErrArg},
	} {
		before := all(b)
		if e := b.Join(c.mail); e != c.e || !same(before, all(b)) {
			t.Error(i, e)
		}
	}
	other := f.clients[2]
	other.Offer(f.draw())
	if e := other.Join(mail); e != api.ErrOpen {
		t.Error("another one's mail", e)
	}
	f.must(b.Join(sig(signer, w33, welcome, f.words([]int{3, 4, 5, 0, 0, 0, 0, 1 << 30}))))
	m, ok := b.Member()
	want, e := group.Join(f.a, 1, s, welcome)
	if !ok || e != api.OK || !reflect.DeepEqual(m, want) {
		t.Error(m)
	}
	if !slices.Equal(logs.Have(b.Logs()), []int{3, 4, 5, 0, 0, 0, 0, 1 << 30}) || len(b.Logs()) != 8 || b.st.offer != nobody || slices.Contains(b.Secrets(), s) {
		t.Error(b.Logs())
	}
	if e := b.Join(mail); e != api.ErrState {
		t.Error(e)
	}
}

// TestP26_3OwnLog: who comes back keeps its own log.
func TestP26_3OwnLog(t *testing.T) {
	f := grouped(t, 2)
	f.clients[1].Say(7)
	f.clients[1].Say(8)
	for range 3 {
		f.step()
	}
	f.must(f.clients[0].Remove(1, f.draw()))
	for range 2 {
		f.step()
	}
	if _, in := f.clients[1].Member(); in {
		t.Fatal("still in")
	}
	f.join(1)
	l := f.clients[1].Logs()
	if len(l) != 8 || !slices.Equal(l[1].Bodies, []int{7, 8}) || l[1].Base != 0 {
		t.Error(l)
	}
}

func TestP26_4Payloads(t *testing.T) {
	f := newFleet(t, 2)
	a := f.clients[0]
	// payload is what the client asks in a round
	payload := func(c *Client, round int) int {
		x, e := c.Request(round, f.draw())
		f.must(e)
		for _, s := range f.secrets {
			x, _, e = onion.Peel(f.a, s, x)
			f.must(e)
		}
		return x
	}
	nothing := f.put(api.List, 0, f.word(70))
	if payload(a, 0) != nothing || payload(a, 1) != nothing {
		t.Error("not a member")
	}
	f.must(a.Create(f.draw()))
	m, _ := a.Member()
	r, _ := sched.Register(f.a, m.Secret)
	if payload(a, 0) != f.put(api.List, 0, f.word(72), r) || payload(a, api.MaxRounds) != f.put(api.List, 0, f.word(72), r) {
		t.Error("read")
	}
	if payload(a, 1) != nothing {
		t.Error("nobody to meet")
	}
	f.must(a.Renew(f.draw()))
	if payload(a, 2) != f.put(api.List, 0, f.word(71), r, a.st.wait.commit) {
		t.Error("write")
	}
	for _, c := range []struct {
		round, draw int
		e           api.Errno
	}{{-1, -1, api.ErrArg}, {api.MaxRounds + 1, f.draw(), api.ErrArg}, {0, -1, api.ErrNone}, {1, 1 << 40, api.ErrNone}} {
		before := all(a)
		if o, e := a.Request(c.round, c.draw); e != c.e || o != 0 || !same(before, all(a)) {
			t.Error(c, e)
		}
	}
	g := grouped(t, 3)
	f = g
	g.clients[2].Say(9)
	for round := 101; round < 113; round += 2 {
		for i, c := range g.clients {
			m, _ := c.Member()
			p, _ := slots.Partner(tree.Members(m.Tree), m.Leaf, round/2)
			told := slices.Clone(c.st.told[max(0, p)])
			got := payload(c, round)
			after, _ := c.Member()
			if p < 0 {
				if got != g.put(api.List, 0, g.word(70)) || !reflect.DeepEqual(m, after) {
					t.Error("nobody")
				}
				continue
			}
			d, _ := sched.Meet(g.a, m.Secret, m.Leaf, p, round)
			key, n, turned, _ := ratchet.Send(g.a, m.Chains[m.Leaf])
			said := g.word(0)
			if w, ok := logs.Want(c.Logs(), told); ok {
				said = g.put(api.Sig, 0, m.Sig, g.word(81), g.word(w.Client), g.word(w.Seq), g.word(w.Body))
				if i != 2 {
					t.Error("who says it?")
				}
			}
			want := g.put(api.List, 0, g.word(73), d, g.put(api.List, 0, g.word(n), g.put(api.Seal, 0, key, g.words(logs.Have(c.Logs())), said)))
			if got != want || !reflect.DeepEqual(after.Chains[m.Leaf].Chain, turned.Chain) || after.Chains[m.Leaf].Next != n+1 {
				t.Error(round, i)
			}
		}
	}
}

func TestP26_5States(t *testing.T) {
	f := grouped(t, 2)
	a := f.clients[0]
	for f.round%2 != 0 {
		f.step()
	}
	if e := a.Answer(f.round, f.word(0)); e != api.ErrState {
		t.Error("nothing asked", e)
	}
	_, answers := f.run()
	if e := a.Answer(f.round+1, answers[0]); e != api.ErrState {
		t.Error("another round", e)
	}
	if e := a.Answer(f.round, answers[1]); e != api.ErrOpen {
		t.Error("another one's answer", e)
	}
	if e := a.Answer(f.round, -1); e != api.ErrNone {
		t.Error(e)
	}
	if e := a.Answer(f.round, f.word(0)); e != api.ErrKind {
		t.Error(e)
	}
	// what has an error, and what only looks, leaves it asked
	a.Say(-1)
	a.Request(-1, f.draw())
	a.Member()
	a.Logs()
	a.Waits()
	a.Secrets()
	a.Mails()
	a.Down()
	f.must(a.Answer(f.round, answers[0]))
	if e := a.Answer(f.round, answers[0]); e != api.ErrState {
		t.Error("twice", e)
	}
	f.round++
	_, answers = f.run()
	a.Say(3)
	if e := a.Answer(f.round, answers[0]); e != api.ErrState {
		t.Error("Say came behind", e)
	}
	f.must(f.clients[1].Answer(f.round, answers[1]))
	f.round++
	_, answers = f.run()
	a.Request(f.round+1, f.draw())
	if e := a.Answer(f.round, answers[0]); e != api.ErrState {
		t.Error("another Request came behind", e)
	}
}

// seal puts what the servers would around an answer to the client's last Request.
func (f *fleet) seal(c *Client, x int) int {
	for s := api.Servers - 1; s >= 0; s-- {
		x = f.put(api.Seal, 0, c.asked.keys[s], x)
	}
	return x
}

func TestP26_5Even(t *testing.T) {
	f := grouped(t, 3)
	a, b := f.clients[0], f.clients[1]
	ask := func(c *Client) {
		t.Helper()
		if _, e := c.Request(1000, f.draw()); e != api.OK {
			t.Fatal(e)
		}
	}
	f.must(a.Renew(f.draw()))
	f.must(b.Renew(f.draw()))
	ask(a)
	before := all(a)
	f.must(a.Answer(1000, f.seal(a, f.word(0))))
	if !same(before, all(a)) || !a.Waits() {
		t.Error("Word 0")
	}
	ask(a)
	if e := a.Answer(1000, f.seal(a, f.draw())); e != api.ErrKind || !same(before, all(a)) {
		t.Error(e)
	}
	mb, _ := b.Member()
	ma, _ := a.Member()
	forged, _, _, _ := group.Commit(f.a, mb, nil, nil, f.draw())
	n, _ := f.a.Node(forged)
	if e := a.Answer(1000, f.seal(a, f.put(api.Sig, 0, ma.Sig, n.Args[1], n.Args[2]))); e != api.ErrSign || !same(before, all(a)) {
		t.Error(e)
	}
	if e := a.Answer(1000, f.seal(a, f.put(api.Sig, 0, n.Args[0], n.Args[1], n.Args[0]))); e != api.ErrTag || !same(before, all(a)) {
		t.Error(e)
	}
	// another one's commit came first
	want, _ := group.Process(f.a, ma, b.st.wait.commit)
	f.must(a.Answer(1000, f.seal(a, b.st.wait.commit)))
	got, _ := a.Member()
	if !reflect.DeepEqual(normalMember(got), normalMember(want)) || a.Waits() {
		t.Error("another one's commit")
	}
	ask(b)
	f.must(b.Answer(1000, f.seal(b, b.st.wait.commit)))
	gb, _ := b.Member()
	if gb.Secret != got.Secret || b.Waits() {
		t.Error("its own commit")
	}
	f.must(b.Remove(0, f.draw()))
	ask(a)
	a.Say(4)
	l := a.Logs()
	ask(a)
	f.must(a.Answer(1000, f.seal(a, b.st.wait.commit)))
	if m, ok := a.Member(); ok || !reflect.DeepEqual(m, api.Member{}) || !reflect.DeepEqual(l, a.Logs()) || a.Waits() {
		t.Error("who is removed")
	}
	ask(a)
	f.must(a.Answer(1000, f.seal(a, b.st.wait.commit)))
}

func normalMember(m api.Member) api.Member {
	st := must(decode(encode(state{in: true, member: m, offer: nobody}), 0))
	return st.member
}

func TestP26_5Odd(t *testing.T) {
	f := grouped(t, 2)
	a, b := f.clients[0], f.clients[1]
	round := 1001
	ask := func() {
		t.Helper()
		if _, e := a.Request(round, f.draw()); e != api.OK {
			t.Fatal(e)
		}
	}
	mb, _ := b.Member()
	chain := mb.Chains[1]
	var n int
	// says is what b would say: what it has, and a message
	says := func(l ...int) int {
		var key int
		var e api.Errno
		key, n, chain, e = ratchet.Send(f.a, chain)
		f.must(e)
		return f.put(api.List, 0, f.word(n), f.put(api.Seal, 0, append([]int{key}, l...)...))
	}
	have := f.words([]int{0, 1, 2, 3, 4, 5, 6, 7})
	w0 := f.word(0)
	msg := func(signer int, l ...int) int {
		args := []int{signer}
		for _, x := range l {
			args = append(args, f.word(x))
		}
		return f.put(api.Sig, 0, args...)
	}
	draw := f.draw()
	ask()
	before := all(a)
	f.must(a.Answer(round, f.seal(a, w0)))
	if !same(before, all(a)) {
		t.Error("Word 0")
	}
	seal := f.put(api.Seal, 0, draw, have, w0)
	for i, c := range []struct {
		x int
		e api.Errno
	}{
		{draw, api.ErrKind}, {f.word(3), api.ErrKind}, {f.put(api.List, 0, f.word(1)), api.ErrKind}, {f.put(api.List, 0, f.word(1), seal, seal), api.ErrKind}, {f.put(api.List, 0, draw, seal), api.ErrKind}, {f.put(api.List, 0, f.word(1), draw), api.ErrKind},
		{f.put(api.List, 0, f.word(5000), seal), api.ErrSkip}, {f.put(api.List, 0, f.word(1<<40), seal), api.ErrArg}, {f.put(api.List, 0, f.word(3), seal), api.ErrOpen}, {f.put(api.Hash, 0, f.word(1), seal), api.ErrKind},
		{says(have), api.ErrKind}, {says(have, w0, w0), api.ErrKind}, {says(w0, w0), api.ErrKind}, {says(f.words(make([]int, 7)), w0), api.ErrKind}, {says(f.put(api.List, 0, draw, w0, w0, w0, w0, w0, w0, w0), w0), api.ErrKind},
	} {
		ask()
		before := all(a)
		if e := a.Answer(round, f.seal(a, c.x)); e != c.e || !same(before, all(a)) {
			t.Error(i, e)
		}
	}
	// these turn the chain, and tell what b has, whatever is wrong with the message
	for i, c := range []struct {
		message int
		e       api.Errno
	}{
		{w0, api.OK}, {draw, api.ErrKind}, {f.word(5), api.ErrKind}, {msg(mb.Sig, 81, 1, 1), api.ErrKind}, {msg(mb.Sig, 81, 1, 1, 5, 5), api.ErrKind}, {msg(mb.Sig, 80, 1, 1, 5), api.ErrKind}, {f.put(api.Sig, 0, mb.Sig, f.word(81), f.word(1), f.word(1), draw), api.ErrKind},
		{msg(draw, 81, 1, 1, 5), api.ErrSign}, {msg(mb.Sig, 81, 1, 2, 5), api.ErrSkip}, {msg(mb.Sig, 81, 8, 1, 5), api.ErrArg}, {msg(mb.Sig, 81, 1, 0, 5), api.ErrArg}, {msg(mb.Sig, 81, 1, 1, api.MaxBody+1), api.ErrArg},
		{msg(mb.Sig, 81, 1, 1, 5), api.OK}, {msg(mb.Sig, 81, 1, 1, 6), api.OK}, {msg(mb.Sig, 81, 6, 1, 9), api.OK},
	} {
		ask()
		a.st.told[1] = nil
		x := says(have, c.message)
		if e := a.Answer(round, f.seal(a, x)); e != c.e {
			t.Error(i, e)
		}
		m, _ := a.Member()
		if !slices.Equal(a.st.told[1], []int{0, 1, 2, 3, 4, 5, 6, 7}) || m.Chains[1].Next != n+1 {
			t.Error(i, "not turned")
		}
		if c.e != api.OK {
			if e := a.Answer(round, f.seal(a, x)); e != api.ErrOld {
				t.Error(i, "a key is used twice", e)
			}
		}
		told := all(a)
		f.reopen(0)
		a = f.clients[0]
		if !same(told, all(a)) {
			t.Error(i, "not saved")
		}
	}
	l := a.Logs()
	if !slices.Equal(logs.Have(l), []int{0, 1, 0, 0, 0, 0, 1, 0}) || l[0].Bodies[0] != 5 {
		t.Error(l)
	}
}

// TestP26_6Crash lets the power go at each write of each call: what is opened then is as ahead of the call, or as behind it.
func TestP26_6Crash(t *testing.T) {
	calls := map[string]func(f *fleet) api.Errno{
		"Offer":  func(f *fleet) api.Errno { _, e := f.clients[2].Offer(f.draw()); return e },
		"Create": func(f *fleet) api.Errno { return f.clients[2].Create(f.draw()) },
		"Invite": func(f *fleet) api.Errno {
			p, _ := pack.Package(f.a, 3, f.draw())
			return f.clients[0].Invite(p.Term, f.draw())
		},
		"Remove": func(f *fleet) api.Errno { return f.clients[0].Remove(1, f.draw()) },
		"Renew":  func(f *fleet) api.Errno { return f.clients[0].Renew(f.draw()) },
		"Say":    func(f *fleet) api.Errno { _, e := f.clients[0].Say(3); return e },
		"Request": func(f *fleet) api.Errno {
			o, e := f.clients[0].Request(501, f.draw())
			if e != api.OK && o != 0 {
				f.t.Error("an onion beside an error")
			}
			return e
		},
		"Answer": func(f *fleet) api.Errno {
			c := f.clients[0]
			c.d.Trip(0, nil, -1)
			f.must(c.Renew(f.draw()))
			c.Request(500, f.draw())
			x := f.seal(c, c.st.wait.commit)
			f.arm(c.d)
			return c.Answer(500, x)
		},
	}
	r := rand.New(rand.NewSource(26))
	for name, call := range calls {
		crashes := 0
		for trip := 1; trip < 60; trip++ {
			f := newFleet(t, 3)
			f.must(f.clients[0].Create(f.draw()))
			f.join(1)
			f.step()
			f.step()
			who := 0
			if name == "Offer" || name == "Create" {
				who = 2
			}
			keep := make([]bool, 40)
			for i := range keep {
				keep[i] = r.Intn(2) == 0
			}
			f.arm = func(d *disk.Disk) { d.Trip(trip, keep, r.Intn(20)-10) }
			f.arm(f.disks[who])
			before := all(f.clients[who])
			e := call(f)
			c := f.clients[who]
			if e == api.OK {
				break
			}
			crashes++
			if e != api.ErrOff || !c.Down() {
				t.Fatal(name, e)
			}
			if _, e := c.Mails(); e != api.ErrOff {
				t.Error("Mails", e)
			}
			if _, e := c.Request(-1, -1); e != api.ErrOff {
				t.Error("Request", e)
			}
			if c.Answer(0, -1) != api.ErrOff || c.Renew(-1) != api.ErrOff || c.Join(-1) != api.ErrOff {
				t.Error("down")
			}
			if name != "Answer" && !same(before, all(c)) {
				t.Error(name, "something changed beside an error")
			}
			f.reopen(who)
			after := all(f.clients[who])
			if name != "Answer" && !same(before, after) {
				// then it is as behind the call
				m, ok := f.clients[who].Member()
				switch name {
				case "Offer":
					if f.clients[who].st.offer == nobody {
						t.Error(name)
					}
				case "Create":
					if !ok {
						t.Error(name)
					}
				case "Say":
					if logs.Have(f.clients[who].Logs())[0] != 1 {
						t.Error(name)
					}
				case "Request":
					if m.Chains[0].Next != before[0].(api.Member).Chains[0].Next+1 {
						t.Error(name)
					}
				default:
					if !f.clients[who].Waits() {
						t.Error(name)
					}
				}
			}
		}
		if crashes < 4 {
			t.Error(name, crashes)
		}
	}
}

// TestP26_6CrashOdd is the same of the answer of an odd round, and of mails.
func TestP26_6CrashOdd(t *testing.T) {
	for trip := 1; trip < 8; trip++ {
		f := grouped(t, 2)
		a, b := f.clients[0], f.clients[1]
		x, e := a.Request(1001, f.draw())
		f.must(e)
		y, e := b.Request(1001, f.draw())
		f.must(e)
		same := []int{0, 1}
		_, out, e := mix.Round(f.a, f.st, f.secrets, []int{x, y}, [][]int{same, same, same})
		f.must(e)
		before, _ := a.Member()
		a.d.Trip(trip, slices.Repeat([]bool{trip%2 == 0}, 20), -1)
		e = a.Answer(1001, out[0])
		if e == api.OK && trip > 4 {
			break
		}
		m, _ := a.Member()
		if e != api.ErrOff || !a.Down() || !reflect.DeepEqual(m, before) {
			t.Fatal(trip, e)
		}
		f.reopen(0)
		m, _ = f.clients[0].Member()
		if n := m.Chains[1].Next; n != before.Chains[1].Next && n != before.Chains[1].Next+1 {
			t.Error(trip, n)
		}
	}
	f := newFleet(t, 2)
	a, b := f.clients[0], f.clients[1]
	f.must(a.Create(f.draw()))
	p, _ := b.Offer(f.draw())
	f.must(a.Invite(p, f.draw()))
	_, answers := f.run()
	f.must(a.Answer(0, answers[0]))
	a.d.Trip(1, nil, -1)
	if l, e := a.Mails(); e != api.ErrOff || len(l) != 0 {
		t.Error("mails that are not saved as gone", e)
	}
	f.reopen(0)
	if l, e := f.clients[0].Mails(); e != api.OK || len(l) != 1 || l[0].Client != 1 {
		t.Error(l, e)
	}
	if l, e := f.clients[0].Mails(); e != api.OK || len(l) != 0 {
		t.Error("twice", e)
	}
}

// TestP26_2OwnLogFirst: the own log stays, be it the first one, too.
func TestP26_2OwnLogFirst(t *testing.T) {
	f := grouped(t, 2)
	a, b := f.clients[0], f.clients[1]
	a.Say(6)
	f.must(b.Remove(0, f.draw()))
	for range 4 {
		f.step()
	}
	f.must(a.Create(f.draw()))
	if l := a.Logs(); len(l) != 1 || l[0].Client != 0 || !slices.Equal(l[0].Bodies, []int{6}) {
		t.Error(l)
	}
	g := grouped(t, 2)
	a, b = g.clients[0], g.clients[1]
	a.Say(6)
	g.must(b.Remove(0, g.draw()))
	for range 4 {
		g.step()
	}
	p, e := a.Offer(g.draw())
	g.must(e)
	g.must(b.Invite(p, g.draw()))
	for range 2 {
		g.step()
	}
	g.must(a.Join(g.mails[0][0]))
	if l := a.Logs(); len(l) != 8 || l[0].Client != 0 || l[0].Base != 0 || !slices.Equal(l[0].Bodies, []int{6}) || logs.Check(l) != api.OK {
		t.Error(l)
	}
}

// TestP26_6NoKeyTwice lets clients crash at random; no chain's key is ever sent twice, and what was said comes in order.
func TestP26_6NoKeyTwice(t *testing.T) {
	r := rand.New(rand.NewSource(27))
	for range 12 {
		f := grouped(t, 3)
		seen := map[int]int{}
		for range 60 {
			for i := range f.clients {
				if r.Intn(4) == 0 {
					f.clients[i].Say(r.Intn(100))
				}
				if r.Intn(12) == 0 {
					f.clients[i].Renew(f.draw())
				}
				if r.Intn(4) == 0 {
					keep := make([]bool, 50)
					for k := range keep {
						keep[k] = r.Intn(2) == 0
					}
					f.disks[i].Trip(1+r.Intn(30), keep, r.Intn(30)-15)
				}
			}
			onions, answers := f.run()
			for i, x := range onions {
				if x < 0 {
					continue
				}
				for _, s := range f.secrets {
					x, _, _ = onion.Peel(f.a, s, x)
				}
				l, _ := f.a.Node(x)
				if w, _ := f.a.Node(l.Args[0]); w.N != wordMeet {
					continue
				}
				said, _ := f.a.Node(l.Args[2])
				box, _ := f.a.Node(said.Args[1])
				if old, ok := seen[box.Args[0]]; ok {
					t.Fatal("a key was used twice", old, i)
				}
				seen[box.Args[0]] = i
			}
			for i, x := range answers {
				if x >= 0 && r.Intn(5) > 0 {
					f.clients[i].Answer(f.round, x)
				}
			}
			f.round++
			for i, c := range f.clients {
				if c.Down() && r.Intn(2) == 0 {
					f.reopen(i)
				}
			}
		}
		for i := range f.clients {
			f.disks[i].Trip(0, nil, -1)
			f.reopen(i)
		}
		// each log of another one's is a beginning of that one's own
		for i, c := range f.clients {
			for _, g := range c.Logs() {
				if g.Client == i || g.Client > 2 {
					continue
				}
				for _, own := range f.clients[g.Client].Logs() {
					if own.Client == g.Client && !slices.Equal(own.Bodies[min(g.Base, len(own.Bodies)):][:len(g.Bodies)], g.Bodies) {
						t.Fatal("another log")
					}
				}
			}
		}
	}
}

func TestCodecNumbers(t *testing.T) {
	for _, n := range []int{0, 1, 127, 128, 129, 255, 256, 16383, 16384, 1 << 30, 1<<63 - 1} {
		w := &writer{}
		w.number(n)
		r := &reader{b: w.b}
		if r.number() != n || r.bad || len(r.b) != 0 {
			t.Error(n)
		}
	}
	r := &reader{b: slices.Repeat([]byte{255}, 10)}
	if r.number() != 0 || !r.bad {
		t.Error("a number without an end")
	}
}

// TestCodecOther: a state that something else saved is none.
func TestCodecOther(t *testing.T) {
	f := newFleet(t, 1)
	d, _ := disk.New(300)
	s, e := store.Open(d)
	f.must(e)
	f.must(s.Save([]byte("something else")))
	if c, e := Open(f.a, d, 0, f.pubs); e != api.ErrState || c != nil {
		t.Error(e)
	}
}

func TestCodec(t *testing.T) {
	f := grouped(t, 3)
	f.clients[0].Renew(f.draw())
	b := encode(f.clients[0].st)
	for n := range b {
		if n == 0 {
			continue
		}
		if _, err := decode(b[:n], 0); err == nil {
			t.Error("a part is taken for a whole", n)
		}
	}
	r := rand.New(rand.NewSource(1))
	for range 20000 {
		bad := slices.Clone(b)
		for range 1 + r.Intn(3) {
			bad[r.Intn(len(bad))] = byte(r.Intn(256))
		}
		if st, err := decode(bad, 0); err == nil {
			encode(st)
			st.secrets()
		}
	}
}
