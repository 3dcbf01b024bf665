package raft

import (
	"fmt"
	"math"
	"math/rand"
	"slices"
	"testing"

	"parapet/api"
)

// model is what chapter 8 says, sentence by sentence, by other means than the
// program's, and with no care for speed. Ints are far from their ends here.
type model struct {
	id     int
	first  []int
	draws  []int
	drawn  int
	term   int
	vote   int
	snap   api.Snap
	log    map[int]api.Entry // by Index
	role   string
	leader int
	commit int
	left   int
	ticks  int // since it became leader
	votes  map[int]bool
	next   map[int]int
	match  map[int]int
	out    []api.Msg
}

func newModel(id int, h api.Hard, members []int, draws ...int) *model {
	m := &model{id: id, first: slices.Clone(members), draws: slices.Clone(draws), term: h.Term, vote: h.Vote, snap: h.Snap, role: "follower", commit: h.Snap.Index}
	m.log = map[int]api.Entry{}
	for _, e := range h.Log {
		m.log[e.Index] = e
	}
	m.restart()
	return m
}

func (m *model) last() int {
	i := m.snap.Index
	for {
		if _, ok := m.log[i+1]; !ok {
			return i
		}
		i++
	}
}

func (m *model) has(i int) bool { return i >= m.snap.Index && i <= m.last() }

func (m *model) termOf(i int) int {
	if i == m.snap.Index {
		return m.snap.Term
	}
	return m.log[i].Term
}

// lastChange is the Index of the last entry of Kind EntryMembers up to most.
func (m *model) lastChange(most int) int {
	found := 0
	for i, e := range m.log {
		if e.Kind == 2 && i <= most {
			found = max(found, i)
		}
	}
	return found
}

func (m *model) membersUpTo(most int) []int {
	if i := m.lastChange(most); i > 0 {
		return m.log[i].Members
	}
	if m.snap.Index > 0 {
		return m.snap.Members
	}
	return m.first
}

func (m *model) members() []int { return m.membersUpTo(math.MaxInt) }

func (m *model) is(node int) bool { return slices.Contains(m.members(), node) }

func (m *model) peers() []int {
	var l []int
	for p := 1; p <= nodes; p++ {
		if p != m.id && m.is(p) {
			l = append(l, p)
		}
	}
	return l
}

func (m *model) restart() {
	draw := 0
	if len(m.draws) > 0 {
		draw = m.draws[m.drawn%len(m.draws)]
		m.drawn++
	}
	m.left = 10 + (draw%10+10)%10
}

func (m *model) send(x api.Msg) {
	x.From, x.Term = m.id, m.term
	m.out = append(m.out, x)
}

func (m *model) sendTo(p int) {
	if m.next[p] <= m.snap.Index && m.snap.Index > 0 {
		m.send(api.Msg{Kind: 5, To: p, Snap: m.snap})
		return
	}
	x := api.Msg{Kind: 3, To: p, Index: m.next[p] - 1, LogTerm: m.termOf(m.next[p] - 1), Commit: m.commit}
	for i := m.next[p]; i <= m.last() && len(x.Entries) < 8; i++ {
		x.Entries = append(x.Entries, m.log[i])
	}
	m.send(x)
}

func (m *model) sendToPeers() {
	for _, p := range m.peers() {
		m.sendTo(p)
	}
}

func (m *model) advance() {
	for i := m.last(); i > m.commit; i-- {
		n := 0
		for _, p := range m.members() {
			if p == m.id || m.match[p] >= i {
				n++
			}
		}
		if m.termOf(i) == m.term && 2*n > len(m.members()) {
			m.commit = i
			break
		}
	}
	if !m.is(m.id) && m.lastChange(math.MaxInt) <= m.commit {
		m.role, m.leader = "follower", 0
		m.restart()
	}
}

func (m *model) put(kind int, data string, members []int) {
	i := m.last() + 1
	m.log[i] = api.Entry{Index: i, Term: m.term, Kind: kind, Data: data, Members: members}
}

func (m *model) becomeLeader() {
	m.role, m.leader = "leader", m.id
	m.next, m.match = map[int]int{}, map[int]int{}
	for p := 1; p <= nodes; p++ {
		m.next[p] = m.last() + 1
	}
	m.put(0, "", nil)
	m.ticks = 0
	m.sendToPeers()
	m.advance()
}

// elected tells whether the votes are a majority.
func (m *model) elected() bool {
	n := 0
	for _, p := range m.members() {
		if m.votes[p] {
			n++
		}
	}
	return 2*n > len(m.members())
}

func (m *model) tick() {
	if m.role == "leader" {
		if m.ticks++; m.ticks%3 == 0 {
			m.sendToPeers()
		}
		return
	}
	if m.left--; m.left > 0 {
		return
	}
	if !m.is(m.id) {
		m.restart()
		return
	}
	m.term++
	m.vote, m.leader, m.role = m.id, 0, "candidate"
	m.votes = map[int]bool{m.id: true}
	m.restart()
	for _, p := range m.peers() {
		m.send(api.Msg{Kind: 1, To: p, Index: m.last(), LogTerm: m.termOf(m.last())})
	}
	if m.elected() {
		m.becomeLeader()
	}
}

// areMembers tells whether a list isn't empty, of nodes, none of them twice.
func (m *model) areMembers(l []int) bool {
	seen := map[int]int{}
	for _, n := range l {
		seen[n]++
		if n < 1 || n > nodes || seen[n] > 1 {
			return false
		}
	}
	return len(l) > 0
}

func (m *model) step(x api.Msg) {
	if x.To != m.id || x.From < 1 || x.From > 9 || x.From == m.id || x.Kind < 1 || x.Kind > 5 || x.Term < 0 {
		return
	}
	if x.Term > m.term {
		m.term, m.vote, m.leader, m.role = x.Term, 0, 0, "follower"
	}
	switch {
	case x.Term < m.term && x.Kind == 1:
		m.send(api.Msg{Kind: 2, To: x.From})
	case x.Term < m.term && (x.Kind == 3 || x.Kind == 5):
		m.send(api.Msg{Kind: 4, To: x.From})
	case x.Term < m.term:
	case x.Kind == 1:
		m.stepVote(x)
	case x.Kind == 2:
		if m.role == "candidate" && x.Yes && m.is(x.From) {
			m.votes[x.From] = true
			if m.elected() {
				m.becomeLeader()
			}
		}
	case x.Kind == 3 && m.role != "leader":
		m.stepAppend(x)
	case x.Kind == 4 && m.role == "leader" && m.is(x.From):
		m.stepAnswer(x)
	case x.Kind == 5 && m.role != "leader":
		m.stepSnap(x)
	}
}

func (m *model) stepVote(x api.Msg) {
	yes := m.vote == 0 || m.vote == x.From
	if x.LogTerm < m.termOf(m.last()) || x.LogTerm == m.termOf(m.last()) && x.Index < m.last() {
		yes = false
	}
	if yes {
		m.vote = x.From
		m.restart()
	}
	m.send(api.Msg{Kind: 2, To: x.From, Yes: yes})
}

func (m *model) stepAppend(x api.Msg) {
	for i, e := range x.Entries {
		if e.Index != x.Index+1+i || e.Term < 0 || e.Term > x.Term || i > 0 && e.Term < x.Entries[i-1].Term || e.Kind < 0 || e.Kind > 2 || e.Kind == 2 && !m.areMembers(e.Members) {
			return
		}
	}
	m.role, m.leader = "follower", x.From
	m.restart()
	if x.Index > m.last() || x.Index >= m.snap.Index && m.termOf(x.Index) != x.LogTerm {
		m.send(api.Msg{Kind: 4, To: x.From, Index: max(0, min(m.last(), x.Index-1))})
		return
	}
	end := x.Index + len(x.Entries)
	for _, e := range x.Entries {
		was, ok := m.log[e.Index]
		if e.Index <= m.snap.Index || ok && was.Term == e.Term {
			continue
		}
		if e.Index <= m.commit {
			m.send(api.Msg{Kind: 4, To: x.From, Index: m.commit})
			return
		}
		for i := m.last(); i >= e.Index; i-- {
			delete(m.log, i)
		}
		m.log[e.Index] = e
	}
	m.commit = max(m.commit, min(x.Commit, end, m.last()))
	m.send(api.Msg{Kind: 4, To: x.From, Yes: true, Index: end})
}

func (m *model) stepAnswer(x api.Msg) {
	p := x.From
	switch {
	case !x.Yes:
		m.next[p] = max(1, min(m.next[p]-1, x.Index+1))
		m.sendTo(p)
	case x.Index <= m.last():
		m.match[p] = max(m.match[p], x.Index)
		m.next[p] = m.match[p] + 1
		m.advance()
		if m.role == "leader" && m.next[p] <= m.last() {
			m.sendTo(p)
		}
	}
}

func (m *model) stepSnap(x api.Msg) {
	if x.Snap.Index < 1 || x.Snap.Term < 0 || x.Snap.Term > x.Term || !m.areMembers(x.Snap.Members) {
		return
	}
	m.role, m.leader = "follower", x.From
	m.restart()
	if x.Snap.Index > m.commit {
		alike := m.has(x.Snap.Index) && m.termOf(x.Snap.Index) == x.Snap.Term
		for i := range m.log {
			if !alike || i <= x.Snap.Index {
				delete(m.log, i)
			}
		}
		m.snap, m.commit = x.Snap, x.Snap.Index
	}
	m.send(api.Msg{Kind: 4, To: x.From, Yes: true, Index: m.commit})
}

func (m *model) propose(data ...string) (int, api.Errno) {
	if m.role != "leader" {
		return 0, api.ErrState
	}
	for _, s := range data {
		if len(s) > maxData {
			return 0, api.ErrArg
		}
	}
	if len(data) == 0 {
		return 0, api.ErrArg
	}
	index := m.last() + 1
	for _, s := range data {
		m.put(1, s, nil)
	}
	m.sendToPeers()
	m.advance()
	return index, api.OK
}

func (m *model) change(node int, add bool) (int, api.Errno) {
	switch {
	case m.role != "leader":
		return 0, api.ErrState
	case node < 1 || node > nodes, m.is(node) == add, !add && len(m.members()) == 1:
		return 0, api.ErrArg
	case m.termOf(m.commit) != m.term, m.lastChange(math.MaxInt) > m.commit:
		return 0, api.ErrBusy
	}
	var members []int
	for p := 1; p <= nodes; p++ {
		if m.is(p) && p != node || p == node && add {
			members = append(members, p)
		}
	}
	index := m.last() + 1
	if add {
		m.next[node], m.match[node] = index, 0
	}
	m.put(2, "", members)
	m.sendToPeers()
	m.advance()
	return index, api.OK
}

func (m *model) compact(data string) api.Errno {
	if m.commit == m.snap.Index {
		return api.ErrState
	}
	if len(data) > snapData {
		return api.ErrArg
	}
	m.snap = api.Snap{Index: m.commit, Term: m.termOf(m.commit), Members: m.membersUpTo(m.commit), Data: data}
	for i := range m.log {
		if i <= m.commit {
			delete(m.log, i)
		}
	}
	return api.OK
}

func (m *model) entries(from, to int) []api.Entry {
	var l []api.Entry
	for i := m.snap.Index + 1; i <= min(to, m.last()); i++ {
		if i >= from {
			l = append(l, m.log[i])
		}
	}
	return l
}

func (m *model) view() View {
	h := api.Hard{Term: m.term, Vote: m.vote, Snap: m.snap, Log: m.entries(0, m.last())}
	role := map[string]int{"follower": 1, "candidate": 2, "leader": 3}[m.role]
	return View{h, role, m.leader, m.commit, m.left, m.members()}
}

// pair is a node and its model, which are asked the same.
type pair struct {
	*Raft
	m *model
}

func newPair(t *testing.T, id int, h api.Hard, members []int, draws ...int) pair {
	t.Helper()
	return pair{made(t, id, h, members, draws...), newModel(id, h, members, draws...)}
}

// anyCall asks both for one thing, of several that are as frequent as weights say,
// and holds what they tell against each other. It hands back what was sent.
func (p pair) anyCall(t *testing.T, r *rand.Rand, m api.Msg) []api.Msg {
	t.Helper()
	p.m.out = nil
	var got, want []any
	var out []api.Msg
	what := ""
	switch k := r.Intn(100); {
	case k < 60:
		what = "Step of " + text(m)
		out = p.Step(m)
		p.m.step(m)
	case k < 80:
		what = "Tick"
		out = p.Tick()
		p.m.tick()
	case k < 88:
		what = "Propose"
		data := slices.Repeat([]string{fmt.Sprint("p", r.Intn(1000))}, r.Intn(5))
		index, l, e := p.Propose(data...)
		out, got = l, []any{index, e}
		index, e = p.m.propose(data...)
		want = []any{index, e}
	case k < 94:
		node, add := r.Intn(nodes+2), r.Intn(3) > 0
		what = fmt.Sprint("Change ", node, add)
		index, l, e := p.Change(node, add)
		out, got = l, []any{index, e}
		index, e = p.m.change(node, add)
		want = []any{index, e}
	case k < 97:
		what = "Compact"
		data := fmt.Sprint("s", r.Intn(1000))
		got, want = []any{p.Compact(data)}, []any{p.m.compact(data)}
	default:
		from := r.Intn(12) - 2
		what = fmt.Sprint("Entries ", from)
		got, want = []any{p.Entries(from)}, []any{p.m.entries(from, p.m.commit)}
	}
	is(t, fmt.Sprint("node ", p.m.id, ", ", what), append(got, out, p.View()), append(want, p.m.out, p.m.view()))
	return out
}

// turned is a message that was sent, maybe with a field that is not what it was.
func turned(r *rand.Rand, m api.Msg) api.Msg {
	for _, n := range []*int{&m.Kind, &m.From, &m.To, &m.Term, &m.Index, &m.LogTerm, &m.Commit} {
		if r.Intn(60) == 0 {
			*n += r.Intn(3) - 1
		}
	}
	return m
}

// anyMsg is a message to a node, all of whose numbers are near those that the node
// knows.
func anyMsg(r *rand.Rand, to int, v View) api.Msg {
	last, term := v.Hard.Snap.Index+len(v.Hard.Log), v.Hard.Term
	index := func() int {
		return []int{last, v.Commit, v.Hard.Snap.Index, 0}[r.Intn(4)] + r.Intn(5) - 2
	}
	near := func() int { return term - max(0, r.Intn(10)-5) + r.Intn(30)/29 }
	m := api.Msg{Kind: r.Intn(7), From: r.Intn(nodes + 2), To: to, Term: near(), Index: index(), LogTerm: near(), Commit: index(), Yes: r.Intn(2) == 0}
	if m.Index >= v.Hard.Snap.Index && m.Index <= last && r.Intn(4) > 0 {
		m.LogTerm = newModel(1, v.Hard, nil).termOf(m.Index)
	}
	least := near()
	for i := range r.Intn(5) {
		e := api.Entry{Index: m.Index + 1 + i, Term: least, Kind: r.Intn(3), Data: fmt.Sprint(r.Intn(9)), Members: anyList(r)}
		if r.Intn(30) == 0 {
			e.Index, e.Term, e.Kind = index(), near(), r.Intn(6)-1
		}
		m.Entries = append(m.Entries, e)
		least = max(least, near())
	}
	m.Snap = api.Snap{Index: index(), Term: near(), Members: anyList(r), Data: fmt.Sprint(r.Intn(9))}
	return m
}

// anyList are some nodes, mostly; now and then there is one too many.
func anyList(r *rand.Rand) []int {
	l := r.Perm(nodes)[:1+r.Intn(4)]
	for i := range l {
		l[i]++
	}
	if r.Intn(20) == 0 {
		l = append(l, r.Intn(nodes+2))
	}
	return l
}

// P8.1 to P8.6: nodes that are asked anything, and that get messages of each other
// and others, right and wrong, held against the chapter's words.
func TestModel(t *testing.T) {
	if testing.Short() {
		t.Skip("takes seconds")
	}
	roles := map[int]int{}
	for seed := range 400 {
		r := rand.New(rand.NewSource(int64(seed)))
		var l []pair
		members := nodesTo(1 + seed%5)
		for id := 1; id <= 5; id++ {
			l = append(l, newPair(t, id, api.Hard{}, members, r.Intn(10), r.Intn(10)-10, r.Intn(99)))
		}
		var sent []api.Msg
		for range 500 {
			i := r.Intn(len(l))
			m := anyMsg(r, l[i].m.id, l[i].m.view())
			if k := len(sent) - 1 - r.Intn(10); k >= 0 && r.Intn(25) > 0 {
				m = turned(r, sent[k])
				i = (m.To + 4) % 5
			}
			if r.Intn(200) == 0 {
				h := l[i].View().Hard
				if p, e := New(l[i].m.id, h, members, 3, 1); e == api.OK {
					l[i] = pair{p, newModel(l[i].m.id, h, members, 3, 1)}
				}
			}
			sent = append(sent, l[i].anyCall(t, r, m)...)
			roles[l[i].View().Role]++
			if t.Failed() {
				t.Fatalf("seed %d", seed)
			}
		}
	}
	if min(roles[1], roles[2], roles[3]) < 9000 {
		t.Errorf("nodes are in the roles %v", roles)
	}
}

// P8.1 to P8.6: nodes that hear of each other only what one of them said, held
// against the chapter's words.
func TestModelAlone(t *testing.T) {
	if testing.Short() {
		t.Skip("takes seconds")
	}
	commits := 0
	for seed := range 105 {
		r := rand.New(rand.NewSource(int64(seed)))
		n := 1 + seed%7
		var l []pair
		for id := 1; id <= n; id++ {
			l = append(l, newPair(t, id, api.Hard{}, nodesTo(n), id, 2*id, 3*id))
		}
		var sent []api.Msg
		for range 600 {
			m := api.Msg{To: 1 + r.Intn(n)}
			if len(sent) > 0 {
				k := r.Intn(min(len(sent), 20))
				m = sent[k]
				sent = slices.Delete(sent, k, k+1)
			}
			p := l[(m.To-1)%n]
			before := p.View().Commit
			sent = append(sent, p.anyCall(t, r, m)...)
			commits += p.View().Commit - before
			if t.Failed() {
				t.Fatalf("seed %d", seed)
			}
		}
	}
	if commits < 2500 {
		t.Errorf("%d entries are committed", commits)
	}
}
