package raft

import (
	"fmt"
	"math/rand"
	"slices"
	"testing"

	"parapet/api"
)

// fleet are nodes with what is between them, and what P8.8 speaks of.
type fleet struct {
	*testing.T
	first   []int
	draws   map[int][]int
	nodes   map[int]*Raft
	down    map[int]api.Hard // those that crashed
	sent    []api.Msg
	commits map[int]int       // how far each node is, since it was made
	leaders map[int]int       // by Term
	chosen  map[int]api.Entry // what is committed, by Index
	since   map[int]int       // the Term in which it was
}

func newFleet(t *testing.T, all int, first []int) *fleet {
	f := &fleet{T: t, first: first, draws: map[int][]int{}, nodes: map[int]*Raft{}, down: map[int]api.Hard{}, commits: map[int]int{}, leaders: map[int]int{}, chosen: map[int]api.Entry{}, since: map[int]int{}}
	for id := 1; id <= all; id++ {
		f.draws[id] = []int{3*id - 3, 7 * id, 2*id + 1}
		f.start(id, api.Hard{})
	}
	return f
}

func (f *fleet) start(id int, h api.Hard) {
	f.Helper()
	f.nodes[id] = made(f.T, id, h, f.first, f.draws[id]...)
	f.commits[id] = 0
	delete(f.down, id)
	f.look(id)
}

// crash takes a node's Hard away from it.
func (f *fleet) crash(id int) {
	f.down[id] = f.nodes[id].View().Hard
	delete(f.nodes, id)
}

// look holds what is to be seen of a node against P8.8. What a node has behind its
// own Commit may differ from what others have committed: it may have been leader
// and alone when it put it there.
func (f *fleet) look(id int) {
	f.Helper()
	v := f.nodes[id].View()
	if v.Commit < f.commits[id] {
		f.Fatalf("Commit of node %d goes from %d to %d", id, f.commits[id], v.Commit)
	}
	f.commits[id] = v.Commit
	for _, e := range v.Hard.Log {
		if e.Index <= v.Commit {
			f.choose(id, v.Hard.Term, e)
		}
	}
	if s := v.Hard.Snap; s.Index > 0 && (s.Data != f.digest(s.Index) || s.Term != f.chosen[s.Index].Term || !slices.Equal(s.Members, f.membersAt(s.Index))) {
		f.Fatalf("node %d has the snapshot %s", id, text(s))
	}
	if v.Role == 3 {
		f.lookLeader(id, v)
	}
}

// choose notes that an entry is committed.
func (f *fleet) choose(id, term int, e api.Entry) {
	f.Helper()
	was, ok := f.chosen[e.Index]
	if ok && text(was) != text(e) {
		f.Fatalf("at node %d %s is committed, and %s was", id, text(e), text(was))
	}
	if !ok {
		f.chosen[e.Index], f.since[e.Index] = e, term
	}
}

// lookLeader holds that there is one leader in a Term, and that it has all that
// was committed in earlier ones.
func (f *fleet) lookLeader(id int, v View) {
	f.Helper()
	term := v.Hard.Term
	if other := f.leaders[term]; other != 0 && other != id {
		f.Fatalf("in Term %d the nodes %d and %d are leaders", term, other, id)
	}
	f.leaders[term] = id
	log := map[int]api.Entry{}
	for _, e := range v.Hard.Log {
		log[e.Index] = e
	}
	for i, e := range f.chosen {
		if i > v.Hard.Snap.Index && f.since[i] < term && text(log[i]) != text(e) {
			f.Fatalf("node %d, leader in Term %d, has not %s, but %s", id, term, text(e), text(log[i]))
		}
	}
}

// digest is a text of what is committed up to an index.
func (f *fleet) digest(index int) string {
	s := ""
	for i := max(1, index-3); i <= index; i++ {
		s += text(f.chosen[i])
	}
	return s
}

func (f *fleet) membersAt(index int) []int {
	for i := index; i > 0; i-- {
		if f.chosen[i].Kind == 2 {
			return f.chosen[i].Members
		}
	}
	return f.first
}

// add sends what a node said.
func (f *fleet) add(id int, l ...api.Msg) {
	f.Helper()
	for _, m := range l {
		if m.From != id || m.Term != f.nodes[id].View().Hard.Term {
			f.Fatalf("node %d sends %s", id, text(m))
		}
	}
	f.sent = append(f.sent, l...)
	f.look(id)
}

func (f *fleet) tick(id int) {
	f.Helper()
	f.add(id, f.nodes[id].Tick()...)
}

// deliver hands a message to whom it is for.
func (f *fleet) deliver(m api.Msg) {
	f.Helper()
	if r := f.nodes[m.To]; r != nil {
		f.add(m.To, r.Step(m)...)
	}
}

func (f *fleet) propose(id int, data ...string) api.Errno {
	f.Helper()
	_, out, e := f.nodes[id].Propose(data...)
	f.add(id, out...)
	return e
}

func (f *fleet) change(id, node int, add bool) api.Errno {
	f.Helper()
	_, out, e := f.nodes[id].Change(node, add)
	f.add(id, out...)
	return e
}

func (f *fleet) compact(id int) api.Errno {
	f.Helper()
	e := f.nodes[id].Compact(f.digest(f.nodes[id].View().Commit))
	f.look(id)
	return e
}

// up are the nodes that have not crashed.
func (f *fleet) up() []int {
	var l []int
	for id := 1; id <= nodes; id++ {
		if f.nodes[id] != nil {
			l = append(l, id)
		}
	}
	return l
}

// run lets time go on as long as all is well: each message arrives.
func (f *fleet) run(ticks int) {
	f.Helper()
	for range ticks {
		for _, id := range f.up() {
			f.tick(id)
		}
		f.settle()
	}
}

// settle delivers all messages, which come to an end.
func (f *fleet) settle() {
	f.Helper()
	for n := 0; len(f.sent) > 0; n++ {
		if n > 10000 {
			f.Fatalf("the nodes never stop talking: %s", text(f.sent[0]))
		}
		m := f.sent[0]
		f.sent = f.sent[1:]
		f.deliver(m)
	}
}

// leader is the only one that there is.
func (f *fleet) leader() int {
	f.Helper()
	found := 0
	for _, id := range f.up() {
		if f.nodes[id].View().Role == 3 && f.nodes[id].isMember(id) {
			if found != 0 {
				f.Fatalf("the nodes %d and %d are leaders", found, id)
			}
			found = id
		}
	}
	if found == 0 {
		f.Fatalf("there is no leader")
	}
	return found
}

// agree holds that some nodes have all that is committed, and follow the leader.
func (f *fleet) agree(ids ...int) {
	f.Helper()
	leader := f.nodes[f.leader()].View()
	for _, id := range ids {
		v := f.nodes[id].View()
		if v.Commit != len(f.chosen) || v.Leader != leader.Leader || v.Hard.Term != leader.Hard.Term || !slices.Equal(v.Members, leader.Members) {
			f.Errorf("node %d is no follower that has all: %s", id, text(v))
		}
	}
}

// P8.2 to P8.6, P8.8: three nodes and five that elect a leader, propose, crash,
// change their Members and make snapshots while all messages arrive.
func TestFleet(t *testing.T) {
	for _, n := range []int{3, 5} {
		f := newFleet(t, n+2, nodesTo(n))
		f.run(10)
		is(t, "the leader", f.leader(), 1)
		is(t, "Propose", f.propose(1, "a", "b", "c"), 0)
		f.run(4)
		f.agree(nodesTo(n)...)
		is(t, "what is committed", []any{len(f.chosen), f.nodes[3].Entries(2)}, []any{4, []api.Entry{en(2, 1, "a"), en(3, 1, "b"), en(4, 1, "c")}})

		f.crash(1)
		is(t, "Propose", f.propose(2, "d"), api.ErrState)
		f.run(30)
		l := f.leader()
		is(t, "Propose", f.propose(l, slices.Repeat([]string{"e"}, 20)...), 0)
		f.run(4)
		f.agree(nodesTo(n)[1:]...)
		f.start(1, f.down[1])
		f.run(9)
		f.agree(nodesTo(n)...)
		is(t, "Change", []api.Errno{f.change(l, n+1, true), f.change(l, n+2, true)}, []api.Errno{0, api.ErrBusy})
		f.run(4)
		f.agree(nodesTo(n + 1)...)
		for _, id := range f.up() {
			e := f.compact(id)
			is(t, "Compact", e == api.OK, id < n+2)
		}
		is(t, "Propose", f.propose(l, "f"), 0)
		is(t, "Change", f.change(l, n+2, true), 0)
		f.run(4)
		f.agree(f.up()...)
		is(t, "a snapshot that was sent", f.nodes[n+2].View().Hard.Snap, f.nodes[l].View().Hard.Snap)

		is(t, "Change", f.change(l, l, false), 0)
		f.run(40)
		if f.leader() == l {
			t.Errorf("node %d is leader and no Member", l)
		}
		l = f.leader()
		is(t, "Propose", f.propose(l, "g"), 0)
		f.run(4)
		f.agree(f.membersAt(len(f.chosen))...)
	}
}

// P8.8: a fleet without a majority commits nothing, and all that it can with one.
func TestMinority(t *testing.T) {
	f := newFleet(t, 5, nodesTo(5))
	f.run(10)
	for _, id := range []int{3, 4, 5} {
		f.crash(id)
	}
	was := len(f.chosen)
	is(t, "Propose", f.propose(1, "a"), 0)
	f.run(60)
	is(t, "what is committed", len(f.chosen), was)
	f.start(4, f.down[4])
	f.run(60)
	is(t, "what is committed", len(f.chosen), was+1)
	f.agree(1, 2, 4)
}

// storm is a script by chance: messages come in any order, more than once or never.
type storm struct {
	*fleet
	r       *rand.Rand
	log     []api.Msg // all that was ever sent
	hasty   int       // the node whose time goes fastest, for a while
	changes int
}

func (s *storm) some() int {
	if s.nodes[s.hasty] == nil || s.r.Intn(60) == 0 {
		s.hasty = s.up()[s.r.Intn(len(s.up()))]
	}
	if s.r.Intn(3) > 0 {
		return s.hasty
	}
	return s.up()[s.r.Intn(len(s.up()))]
}

// message delivers one of the later messages mostly, at times an older one; a few
// are never taken away.
func (s *storm) message() {
	if s.r.Intn(10) == 0 && len(s.log) > 0 {
		s.deliver(s.log[s.r.Intn(len(s.log))])
		return
	}
	if len(s.sent) == 0 {
		return
	}
	k := s.r.Intn(len(s.sent))
	m := s.sent[k]
	s.sent = slices.Delete(s.sent, k, k+1)
	if len(s.sent) > 30 {
		s.sent = s.sent[5:]
	}
	if s.r.Intn(8) > 0 {
		s.deliver(m)
	}
}

// turn does one thing of many.
func (s *storm) turn() {
	before := len(s.sent)
	switch k := s.r.Intn(1000); {
	case k < 790:
		s.message()
	case k < 890:
		id := s.some()
		for range 1 + s.r.Intn(12) {
			s.tick(id)
		}
	case k < 930:
		s.propose(s.some(), slices.Repeat([]string{fmt.Sprint("p", s.r.Intn(1000))}, 1+s.r.Intn(3))...)
	case k < 965:
		if s.change(s.some(), 1+s.r.Intn(nodes), s.r.Intn(2) == 0) == api.OK {
			s.changes++
		}
	case k < 980:
		s.compact(s.some())
	case k < 990:
		if len(s.down) < nodes/2 {
			s.crash(s.some())
		}
	default:
		for _, id := range s.r.Perm(nodes) {
			if h, ok := s.down[1+id]; ok {
				s.start(1+id, h)
				break
			}
		}
	}
	s.log = append(s.log, s.sent[min(before, len(s.sent)):]...)
}

// P8.8: scripts by chance, of three to seven first members.
func TestSafety(t *testing.T) {
	if testing.Short() {
		t.Skip("takes seconds")
	}
	leaders, chosen, changes := 0, 0, 0
	for seed := range 200 {
		r := rand.New(rand.NewSource(int64(seed)))
		s := &storm{fleet: newFleet(t, nodes, nodesTo(3+seed%3*2)), r: r}
		for range 2000 {
			s.turn()
		}
		leaders, chosen, changes = leaders+len(s.leaders), chosen+len(s.chosen), changes+s.changes
	}
	if leaders < 1000 || chosen < 5000 || changes < 500 {
		t.Errorf("only %d leaders, %d entries and %d changes", leaders, chosen, changes)
	}
}
