package raft

import (
	"fmt"
	"math"
	"slices"
	"strings"
	"testing"

	"parapet/api"
)

// refused holds that New refuses.
func refused(t *testing.T, what string, id int, h api.Hard, members []int) {
	t.Helper()
	if r, e := New(id, h, members, 1, 2); r != nil || e != api.ErrArg {
		t.Errorf("%s: New(%d, %s, %v) tells %v, %d", what, id, text(h), members, r != nil, e)
	}
}

// P8.1: the nodes that there may be.
func TestNewId(t *testing.T) {
	for _, id := range []int{0, -1, nodes + 1, 100, math.MaxInt, math.MinInt} {
		refused(t, "id", id, api.Hard{}, []int{1})
	}
	for id := 1; id <= nodes; id++ {
		is(t, "a new node", made(t, id, api.Hard{}, []int{2}).View(), View{Role: 1, Left: 10, Members: []int{2}})
	}
}

// P8.1: the members that there may be, and none.
func TestNewMembers(t *testing.T) {
	for _, l := range wrongLists {
		refused(t, "members", 1, api.Hard{}, l)
	}
	for _, l := range [][]int{nil, {}, {1}, {nodes}, {2, 3}, {3, 1, 2}, nodesTo(nodes), {9, 8, 7, 6, 5, 4, 3, 2, 1}} {
		is(t, "members", made(t, 1, api.Hard{}, l).View(), View{Role: 1, Left: 10, Members: l})
	}
}

// hard is a valid Hard that has all parts.
func hard() api.Hard {
	return api.Hard{
		Term: 5,
		Vote: 2,
		Snap: api.Snap{Index: 4, Term: 2, Members: []int{3, 1, 2}, Data: "snap"},
		Log:  []api.Entry{en(5, 2, "five"), mem(6, 3, 4, 2), none(7, 5)},
	}
}

// P8.1: each part of a Hard that is not valid.
func TestNewHard(t *testing.T) {
	for what, turn := range map[string]func(h *api.Hard){
		"Term below":            func(h *api.Hard) { h.Term = -1; h.Snap = api.Snap{}; h.Log = nil },
		"Term far below":        func(h *api.Hard) { h.Term = math.MinInt; h.Snap.Term = math.MinInt; h.Log = nil },
		"Vote below":            func(h *api.Hard) { h.Vote = -1 },
		"Vote far below":        func(h *api.Hard) { h.Vote = math.MinInt },
		"snap's Index":          func(h *api.Hard) { h.Snap.Index = -1; h.Log = nil },
		"snap's Index, entries": func(h *api.Hard) { h.Snap.Index = -1; h.Log = row(0, 2, 2) },
		"snap's Term":           func(h *api.Hard) { h.Snap.Term = -1 },
		"snap's Term alone":     func(h *api.Hard) { *h = api.Hard{Snap: api.Snap{Term: -1}} },
		"snap's Term above":     func(h *api.Hard) { h.Snap.Term = 6; h.Log = nil },
		"none's Term above":     func(h *api.Hard) { *h = api.Hard{Snap: api.Snap{Term: 1}} },
		"snap above an entry":   func(h *api.Hard) { h.Snap.Term = 3 },
		"none above an entry":   func(h *api.Hard) { h.Snap = api.Snap{Term: 1}; h.Log = row(1, 0, 1) },
		"first Term above":      func(h *api.Hard) { h.Log = row(5, 6) },
		"last Term above":       func(h *api.Hard) { h.Log[2].Term = 6 },
		"Term below entries":    func(h *api.Hard) { h.Term = 4 },
		"Terms decrease":        func(h *api.Hard) { h.Log[1].Term = 5; h.Log[2].Term = 4 },
		"entry's Term below":    func(h *api.Hard) { *h = api.Hard{Log: row(1, -1)} },
		"later Term below":      func(h *api.Hard) { *h = api.Hard{Log: row(1, 0, -1)} },
		"a gap ahead":           func(h *api.Hard) { h.Log = h.Log[1:] },
		"a gap":                 func(h *api.Hard) { h.Log = slices.Delete(h.Log, 1, 2) },
		"an Index of the snap":  func(h *api.Hard) { h.Log = row(4, 2, 2) },
		"an Index twice":        func(h *api.Hard) { h.Log[2].Index = 6 },
		"an Index too far":      func(h *api.Hard) { h.Log[2].Index = 8 },
		"Indexes turned about":  func(h *api.Hard) { h.Log[1].Index, h.Log[2].Index = 7, 6 },
		"Index 0":               func(h *api.Hard) { *h = api.Hard{Log: row(0, 0)} },
		"Index 2":               func(h *api.Hard) { *h = api.Hard{Log: row(2, 0)} },
		"no Index beyond":       func(h *api.Hard) { h.Snap.Index = math.MaxInt; h.Log = row(math.MinInt, 2) },
		"no Index beyond, late": func(h *api.Hard) { h.Snap.Index = math.MaxInt - 1; h.Log = row(math.MaxInt, 2, 2) },
		"Kind 3":                func(h *api.Hard) { h.Log[0].Kind = 3 },
		"Kind 3, last":          func(h *api.Hard) { h.Log[2].Kind = 3 },
		"Kind below":            func(h *api.Hard) { h.Log[0].Kind = -1 },
		"Kind far":              func(h *api.Hard) { h.Log[2].Kind = math.MaxInt },
		"Kind far below":        func(h *api.Hard) { h.Log[2].Kind = math.MinInt },
		"Kind 258":              func(h *api.Hard) { h.Log[2].Kind = 258 },
	} {
		h := hard()
		turn(&h)
		refused(t, what, 1, h, []int{1})
	}
	for _, l := range noMembers {
		h := hard()
		h.Log[1].Members = l
		refused(t, "an entry's Members", 1, h, []int{1})
		h = hard()
		h.Snap.Members = l
		refused(t, "the snap's Members", 1, h, []int{1})
	}
}

// P8.1: what is valid, at its edges, and its View.
func TestNewValid(t *testing.T) {
	for what, turn := range map[string]func(h *api.Hard){
		"all":                 func(h *api.Hard) {},
		"no log":              func(h *api.Hard) { h.Log = nil },
		"no snap":             func(h *api.Hard) { h.Snap = api.Snap{}; h.Log = row(1, 0, 0, 1, 5) },
		"nothing":             func(h *api.Hard) { *h = api.Hard{} },
		"a far Term":          func(h *api.Hard) { h.Term = math.MaxInt },
		"a far Vote":          func(h *api.Hard) { h.Vote = math.MaxInt },
		"Vote 10":             func(h *api.Hard) { h.Vote = nodes + 1 },
		"no vote":             func(h *api.Hard) { h.Vote = 0 },
		"snap's Term":         func(h *api.Hard) { h.Snap.Term = 5; h.Log = nil },
		"none's Term":         func(h *api.Hard) { *h = api.Hard{Term: 1, Snap: api.Snap{Term: 1}, Log: row(1, 1)} },
		"none's Members":      func(h *api.Hard) { h.Snap = api.Snap{Members: []int{0, 0}, Data: "x"}; h.Log = nil },
		"a far Index":         func(h *api.Hard) { h.Snap.Index = math.MaxInt; h.Log = nil },
		"a far Index, behind": func(h *api.Hard) { h.Snap.Index = math.MaxInt - 1; h.Log = row(math.MaxInt, 2) },
		"Members of no use":   func(h *api.Hard) { h.Log[0].Members = []int{0, -1}; h.Log[2].Members = []int{7, 7} },
		"one Member":          func(h *api.Hard) { h.Log[1].Members = []int{nodes} },
		"nine Members":        func(h *api.Hard) { h.Snap.Members = nodesTo(nodes); h.Log[1].Members = nodesTo(nodes) },
		"long data":           func(h *api.Hard) { h.Log[0].Data = strings.Repeat("x", maxData+1) },
	} {
		h := hard()
		turn(&h)
		v := made(t, 3, h, []int{8, 5}, 4).View()
		is(t, what, v.Hard, h)
		is(t, what, []int{v.Role, v.Leader, v.Commit, v.Left}, []int{1, 0, h.Snap.Index, 14})
	}
}

// P8.1: where the Members stand; in the order that they have there.
func TestMembers(t *testing.T) {
	h := hard()
	two := hard()
	two.Log = append(two.Log, mem(8, 5, 9))
	plain := api.Hard{Snap: api.Snap{Members: []int{6, 5}}, Log: row(1, 0)}
	inLog := api.Hard{Log: []api.Entry{mem(1, 0, 5, 1), none(2, 0)}}
	snapped := hard()
	snapped.Log = row(5, 2, 3)
	for _, x := range []struct {
		h    api.Hard
		want []int
	}{{h, []int{4, 2}}, {two, []int{9}}, {snapped, []int{3, 1, 2}}, {plain, []int{8, 5}}, {inLog, []int{5, 1}}, {api.Hard{}, []int{8, 5}}} {
		is(t, "Members", made(t, 1, x.h, []int{8, 5}).View().Members, x.want)
	}
}

// P8.1: the chapter's example, and the draws: none, one, several, and the row
// begun again.
func TestDraws(t *testing.T) {
	h := api.Hard{Term: 3, Vote: 2, Snap: api.Snap{Index: 4, Members: []int{1}}}
	v := made(t, 1, h, nil, 13).View()
	is(t, "Commit and Left", []int{v.Commit, v.Left}, []int{4, 13})
	for _, x := range []struct {
		draws, lefts []int
	}{
		{nil, []int{10, 10, 10}},
		{[]int{0}, []int{10, 10}},
		{[]int{9}, []int{19, 19, 19}},
		{[]int{10, 19, 20}, []int{10, 19, 10, 10, 19, 10, 10}},
		{[]int{1, 2, 3, 4, 5}, []int{11, 12, 13, 14, 15, 11, 12, 13, 14, 15, 11}},
		{[]int{-1, -9, -10, -11, -20}, []int{19, 11, 10, 19, 10, 19}},
		{[]int{math.MaxInt, math.MinInt, math.MinInt + 1}, []int{17, 12, 13, 17}},
		{[]int{1, -1}, []int{11, 19, 11, 19}},
	} {
		r := made(t, 1, api.Hard{}, []int{2}, x.draws...)
		var lefts []int
		for range x.lefts {
			left := r.View().Left
			lefts = append(lefts, left)
			is(t, "a node that is no Member", ticks(r, left), msgs())
		}
		is(t, fmt.Sprint("Left with the draws ", x.draws), lefts, x.lefts)
	}
}

// P8.2: each Tick takes one of Left; a node that is no Member waits again and
// again, and turns nothing else.
func TestTick(t *testing.T) {
	r := made(t, 1, hard(), nil, 3, 5)
	left, next := 13, 15
	for range 100 {
		is(t, "a Tick", r.Tick(), msgs())
		if left--; left == 0 {
			left, next = next, 28-next
		}
		is(t, "no Member", r.View(), View{hard(), 1, 0, 4, left, []int{4, 2}})
	}
	r = made(t, 2, hard(), nil, 3, 5)
	for left := 12; left > 0; left-- {
		is(t, "a Tick", r.Tick(), msgs())
		is(t, "a Member", r.View(), View{hard(), 1, 0, 4, left, []int{4, 2}})
	}
	is(t, "its election", []any{r.Tick(), r.View().Left}, []any{msgs(voteMsg(2, 4, 6, 7, 5)), 15})
}

// P8.2: an election: to all Peers, in ascending order, whatever order the Members
// have.
func TestElection(t *testing.T) {
	h := api.Hard{Term: 7, Vote: 3, Log: row(1, 2, 6)}
	r := made(t, 4, h, []int{9, 4, 1, 3}, 0, 8, 2)
	is(t, "ahead of the last Tick", ticks(r, 9), msgs())
	is(t, "Left", r.View().Left, 1)
	is(t, "an election", r.Tick(), msgs(voteMsg(4, 1, 8, 2, 6), voteMsg(4, 3, 8, 2, 6), voteMsg(4, 9, 8, 2, 6)))
	h.Term, h.Vote = 8, 4
	is(t, "a candidate", r.View(), View{h, 2, 0, 0, 18, []int{9, 4, 1, 3}})
	r.Step(votedMsg(1, 4, 8, true))
	is(t, "a candidate waits", ticks(r, 17), msgs())
	is(t, "the next election", r.Tick(), msgs(voteMsg(4, 1, 9, 2, 6), voteMsg(4, 3, 9, 2, 6), voteMsg(4, 9, 9, 2, 6)))
	h.Term = 9
	is(t, "a candidate again", r.View(), View{h, 2, 0, 0, 12, []int{9, 4, 1, 3}})
	r.Step(votedMsg(3, 4, 9, true))
	is(t, "votes of another election don't count", r.View().Role, 2)
	r.Step(votedMsg(1, 4, 9, true))
	is(t, "votes of this one do", r.View().Role, 3)
}

// P8.2: an election tells what is last, of the snapshot if there is no entry; a
// follower forgets its leader.
func TestElectionLast(t *testing.T) {
	h := hard()
	h.Log = nil
	r := made(t, 3, h, nil)
	r.Step(appendMsg(2, 3, 5, 4, 2, 4))
	is(t, "Leader", r.View().Leader, 2)
	is(t, "an election", ticks(r, 10), msgs(voteMsg(3, 1, 6, 4, 2), voteMsg(3, 2, 6, 4, 2)))
	is(t, "Leader", r.View().Leader, 0)
	is(t, "nothing there", ticks(made(t, 1, api.Hard{}, []int{1, 2}), 10), msgs(voteMsg(1, 2, 1, 0, 0)))
	is(t, "a snap with Index 0", ticks(made(t, 1, api.Hard{Term: 4, Snap: api.Snap{Term: 3}}, []int{1, 2}), 10), msgs(voteMsg(1, 2, 5, 0, 3)))
}

// P8.2, P8.3: the only Member.
func TestAlone(t *testing.T) {
	r := made(t, 1, api.Hard{}, []int{1})
	is(t, "nine Ticks", []any{ticks(r, 9), r.View()}, []any{msgs(), View{Role: 1, Left: 1, Members: []int{1}}})
	is(t, "the tenth", r.Tick(), msgs())
	want := View{api.Hard{Term: 1, Vote: 1, Log: []api.Entry{none(1, 1)}}, 3, 1, 1, 10, []int{1}}
	is(t, "the leader", r.View(), want)
	is(t, "further Ticks", ticks(r, 50), msgs())
	is(t, "the leader, later", r.View(), want)

	h := hard()
	h.Log[1].Members = []int{3}
	r = made(t, 3, h, nil, 1, 2)
	is(t, "with a state of its own", ticks(r, 11), msgs())
	h.Term, h.Vote, h.Log = 6, 3, append(h.Log, none(8, 6))
	is(t, "the leader", r.View(), View{h, 3, 3, 8, 12, []int{3}})
}

// P8.3: how many votes it takes to lead, and what a new leader does.
func TestLead(t *testing.T) {
	for n := 2; n <= nodes; n++ {
		r := made(t, 1, api.Hard{Term: 1, Log: row(1, 1, 1)}, nodesTo(n))
		ticks(r, 10)
		var out, want []api.Msg
		for p := 2; p <= n && r.View().Role == 2; p++ {
			is(t, "not enough", out, msgs())
			is(t, "not enough", p-1 > n/2, false)
			out = r.Step(votedMsg(p, 1, 2, true))
		}
		for p := 2; p <= n; p++ {
			want = append(want, appendMsg(1, p, 2, 2, 1, 0, none(3, 2)))
		}
		is(t, fmt.Sprint("the leader of ", n), out, want)
		is(t, "its state", r.View(), View{api.Hard{Term: 2, Vote: 1, Log: append(row(1, 1, 1), none(3, 2))}, 3, 1, 0, 10, nodesTo(n)})
	}
}

// P8.2: a leader sends on every third Tick since it became leader, and does not
// wait itself.
func TestBeat(t *testing.T) {
	r := led(t, 2, api.Hard{}, []int{3, 1, 2})
	beat := func(term, index, logTerm int, l ...api.Entry) []api.Msg {
		return msgs(appendMsg(2, 1, term, index, logTerm, 0, l...), appendMsg(2, 3, term, index, logTerm, 0, l...))
	}
	for range 4 {
		is(t, "one Tick", r.Tick(), msgs())
		is(t, "two Ticks", r.Tick(), msgs())
		is(t, "three Ticks", r.Tick(), beat(1, 0, 0, none(1, 1)))
		is(t, "Left", r.View().Left, 10)
	}
	is(t, "two more", ticks(r, 2), msgs())
	r.Propose("a")
	is(t, "a message of its own doesn't delay it", r.Tick(), beat(1, 0, 0, none(1, 1), en(2, 1, "a")))
	is(t, "one more", r.Tick(), msgs())
	r.Step(votedMsg(1, 2, 2, true))
	is(t, "a follower", []int{r.View().Role, r.View().Left}, []int{1, 10})
	ticks(r, 10)
	r.Step(votedMsg(1, 2, 3, true))
	is(t, "leader again", []int{r.View().Role, r.View().Hard.Term}, []int{3, 3})
	is(t, "two Ticks", ticks(r, 2), msgs())
	is(t, "three Ticks", r.Tick(), beat(3, 2, 1, none(3, 3)))
}

// P8.3: a new leader thinks nothing of the others that it knew when it was leader
// before.
func TestLeadAgain(t *testing.T) {
	r := led(t, 1, api.Hard{}, nodesTo(3))
	is(t, "an answer", r.Step(answerMsg(2, 1, 1, true, 1)), msgs())
	is(t, "Commit", r.View().Commit, 1)
	r.Step(votedMsg(3, 1, 5, false))
	ticks(r, 10)
	is(t, "leader again", r.Step(votedMsg(2, 1, 6, true)), msgs(appendMsg(1, 2, 6, 1, 1, 1, none(2, 6)), appendMsg(1, 3, 6, 1, 1, 1, none(2, 6))))
	is(t, "a Yes that tells less than an earlier one", r.Step(answerMsg(2, 1, 6, true, 0)), msgs(appendMsg(1, 2, 6, 0, 0, 1, none(1, 1), none(2, 6))))
	is(t, "a Yes that tells the same", r.Step(answerMsg(2, 1, 6, true, 1)), msgs(appendMsg(1, 2, 6, 1, 1, 1, none(2, 6))))
	is(t, "Commit", r.View().Commit, 1)
	is(t, "a proposal goes from there on", func() []api.Msg { _, l, _ := r.Propose("a"); return l }(),
		msgs(appendMsg(1, 2, 6, 1, 1, 1, none(2, 6), en(3, 6, "a")), appendMsg(1, 3, 6, 1, 1, 1, none(2, 6), en(3, 6, "a"))))
}

// P8.5: Propose: the chapter's example, and a leader of three.
func TestPropose(t *testing.T) {
	r := led(t, 1, api.Hard{}, []int{1})
	index, out, e := r.Propose("a", "b")
	is(t, "Propose", []any{index, out, e, r.View().Commit}, []any{2, msgs(), 0, 3})
	is(t, "the log", r.View().Hard.Log, []api.Entry{none(1, 1), en(2, 1, "a"), en(3, 1, "b")})

	r = led(t, 2, api.Hard{Term: 4, Log: row(1, 3)}, nodesTo(3))
	r.Step(answerMsg(3, 2, 5, true, 2))
	is(t, "Commit", r.View().Commit, 2)
	index, out, e = r.Propose("", strings.Repeat("x", maxData))
	long := en(4, 5, strings.Repeat("x", maxData))
	is(t, "Propose", []any{index, e}, []any{3, 0})
	is(t, "its messages", out, msgs(appendMsg(2, 1, 5, 1, 3, 2, none(2, 5), en(3, 5, ""), long), appendMsg(2, 3, 5, 2, 5, 2, en(3, 5, ""), long)))
	is(t, "Commit", r.View().Commit, 2)
}

// P8.5: what Propose refuses, and which error is first.
func TestProposeErrors(t *testing.T) {
	long := strings.Repeat("x", maxData+1)
	wrong := [][]string{nil, {}, {long}, {"a", long}, {long, "a"}, {"a", long, "b"}}
	r := made(t, 1, api.Hard{}, nodesTo(3))
	check := func(what string, want api.Errno, l ...string) {
		t.Helper()
		stays(t, what, r, func() []api.Msg {
			index, out, e := r.Propose(l...)
			errOf(t, what, index, out, e, want)
			return out
		})
	}
	for _, role := range []string{"a follower", "a candidate"} {
		for _, l := range append(wrong, []string{"a"}) {
			check(role, api.ErrState, l...)
		}
		ticks(r, 10)
	}
	r.Step(votedMsg(2, 1, 2, true))
	for _, l := range wrong {
		check("a leader", api.ErrArg, l...)
	}
	if index, out, e := r.Propose("a"); index != 2 || len(out) != 2 || e != api.OK {
		t.Errorf("Propose tells %d, %s, %d", index, text(out), e)
	}
}

// P8.5: many entries at once go out by eights.
func TestBatch(t *testing.T) {
	for _, n := range []int{batch - 1, batch, batch + 1, 3 * batch} {
		r := led(t, 1, api.Hard{}, []int{1, 2})
		r.Step(answerMsg(2, 1, 1, true, 1))
		index, out, e := r.Propose(slices.Repeat([]string{"x"}, n)...)
		is(t, "Propose", []any{index, e, len(r.View().Hard.Log)}, []any{2, 0, 1 + n})
		for first := 2; first <= 1+n; first += batch {
			k := min(batch, 2+n-first)
			l := r.View().Hard.Log[first-1:][:k]
			is(t, fmt.Sprint(n, " entries, from ", first), out, msgs(appendMsg(1, 2, 1, first-1, 1, first-1, l...)))
			out = r.Step(answerMsg(2, 1, 1, true, first-1+k))
		}
		is(t, "the last answer", out, msgs())
		is(t, "Commit", r.View().Commit, 1+n)
	}
}

// P8.5: Change: the chapter's example, adding and removing.
func TestChange(t *testing.T) {
	r := led(t, 1, api.Hard{}, []int{1})
	for _, x := range []struct {
		node int
		add  bool
	}{{1, false}, {2, false}} {
		index, out, e := r.Change(x.node, x.add)
		errOf(t, "Change", index, out, e, api.ErrArg)
	}
	index, out, e := r.Change(2, true)
	is(t, "Change", []any{index, out, e}, []any{2, msgs(appendMsg(1, 2, 1, 1, 1, 1, mem(2, 1, 1, 2))), 0})
	is(t, "the leader", r.View(), View{api.Hard{Term: 1, Vote: 1, Log: []api.Entry{none(1, 1), mem(2, 1, 1, 2)}}, 3, 1, 1, 10, []int{1, 2}})
	index, out, e = r.Change(3, true)
	errOf(t, "Change", index, out, e, api.ErrBusy)
	is(t, "the new one lacks all", r.Step(answerMsg(2, 1, 1, false, 0)), msgs(appendMsg(1, 2, 1, 0, 0, 1, none(1, 1), mem(2, 1, 1, 2))))
	is(t, "and has it then", r.Step(answerMsg(2, 1, 1, true, 2)), msgs())
	is(t, "Commit", r.View().Commit, 2)
	index, out, e = r.Change(2, false)
	is(t, "Change", []any{index, out, e, r.View().Members, r.View().Commit}, []any{3, msgs(), 0, []int{1}, 3})
}

// P8.5: new Members stand in ascending order, and what a new one has is forgotten.
func TestChangeMembers(t *testing.T) {
	r := led(t, 5, api.Hard{}, []int{9, 5, 2})
	r.Step(answerMsg(9, 5, 1, true, 1))
	add := func(index, node int, members []int, to ...int) {
		t.Helper()
		i, out, e := r.Change(node, slices.Contains(members, node))
		is(t, "Change", []any{i, e, r.View().Members}, []any{index, 0, members})
		var got []int
		for _, m := range out {
			got = append(got, m.To)
			is(t, "an entry", m.Entries[len(m.Entries)-1], mem(index, 1, members...))
		}
		is(t, "sent to", got, to)
		for _, p := range to {
			r.Step(answerMsg(p, 5, 1, true, index))
		}
		is(t, "Commit", r.View().Commit, index)
	}
	add(2, 7, []int{2, 5, 7, 9}, 2, 7, 9)
	add(3, 1, []int{1, 2, 5, 7, 9}, 1, 2, 7, 9)
	add(4, 7, []int{1, 2, 5, 9}, 1, 2, 9)
	r.Propose("x")
	add(6, 7, []int{1, 2, 5, 7, 9}, 1, 2, 7, 9)
	add(7, 9, []int{1, 2, 5, 7}, 1, 2, 7)
}

// P8.5: a node that is added anew has Next last + 1, taken ahead of the entry, and
// Match 0.
func TestChangeNext(t *testing.T) {
	r := led(t, 1, api.Hard{}, nodesTo(3))
	r.Propose("a")
	for _, p := range []int{2, 3} {
		r.Step(answerMsg(p, 1, 1, true, 2))
	}
	r.Change(3, false)
	r.Step(answerMsg(2, 1, 1, true, 3))
	is(t, "Commit", r.View().Commit, 3)
	r.Propose("b", "c")
	r.Step(answerMsg(2, 1, 1, true, 5))
	_, out, e := r.Change(3, true)
	is(t, "Change", []any{out, e}, []any{msgs(appendMsg(1, 2, 1, 5, 1, 5, mem(6, 1, 1, 2, 3)), appendMsg(1, 3, 1, 5, 1, 5, mem(6, 1, 1, 2, 3))), 0})
	is(t, "a No of node 3", r.Step(answerMsg(3, 1, 1, false, 4)), msgs(appendMsg(1, 3, 1, 4, 1, 5, en(5, 1, "c"), mem(6, 1, 1, 2, 3))))
	is(t, "a Yes up to 1", r.Step(answerMsg(3, 1, 1, true, 1)), msgs(appendMsg(1, 3, 1, 1, 1, 5, r.View().Hard.Log[1:]...)))
	is(t, "a Yes up to 0", r.Step(answerMsg(3, 1, 1, true, 0)), msgs(appendMsg(1, 3, 1, 1, 1, 5, r.View().Hard.Log[1:]...)))
}

// P8.5: what Change refuses, and which error is first.
func TestChangeErrors(t *testing.T) {
	type change struct {
		node int
		add  bool
	}
	wrong := []change{{0, true}, {0, false}, {nodes + 1, true}, {nodes + 1, false}, {-1, true}, {-1, false}, {math.MaxInt, true}, {math.MinInt, false}, {1, true}, {2, true}, {3, true}, {4, false}, {9, false}}
	right := []change{{4, true}, {9, true}, {1, false}, {2, false}, {3, false}}
	r := made(t, 1, api.Hard{}, nodesTo(3))
	check := func(what string, want api.Errno, l []change) {
		t.Helper()
		for _, c := range l {
			stays(t, what, r, func() []api.Msg {
				index, out, e := r.Change(c.node, c.add)
				errOf(t, fmt.Sprint(what, ": Change", c), index, out, e, want)
				return out
			})
		}
	}
	for _, role := range []string{"a follower", "a candidate"} {
		check(role, api.ErrState, append(wrong, right...))
		ticks(r, 10)
	}
	r.Step(votedMsg(2, 1, 2, true))
	check("a leader", api.ErrArg, wrong)
	check("a leader without an entry of its Term committed", api.ErrBusy, right)
	r.Step(answerMsg(2, 1, 2, true, 1))
	_, out, e := r.Change(4, true)
	is(t, "Change", []any{len(out), e}, []any{3, 0})
	check("a change later", api.ErrBusy, []change{{5, true}, {2, false}, {4, false}, {1, false}})
	check("a change later", api.ErrArg, []change{{4, true}, {5, false}})
	r.Propose("a")
	check("an entry later", api.ErrBusy, []change{{5, true}, {2, false}})
	r.Step(answerMsg(2, 1, 2, true, 2))
	check("half of four", api.ErrBusy, []change{{5, true}, {2, false}})
	r.Step(answerMsg(3, 1, 2, true, 2))
	is(t, "Commit", r.View().Commit, 2)
	_, out, e = r.Change(4, false)
	is(t, "Change", []any{len(out), e}, []any{2, 0})
}

// P8.5: a leader that an earlier one's change of Members waits for, or that has
// not committed an entry of its Term, is busy.
func TestChangeBusy(t *testing.T) {
	h := api.Hard{Term: 1, Log: []api.Entry{none(1, 1), mem(2, 1, 1, 2, 3)}}
	r := led(t, 1, h, []int{1, 2})
	busy := func(what string) {
		t.Helper()
		index, out, e := r.Change(4, true)
		errOf(t, what, index, out, e, api.ErrBusy)
	}
	busy("at first")
	r.Step(answerMsg(2, 1, 2, true, 2))
	busy("an older entry is no proof")
	is(t, "Commit", r.View().Commit, 0)
	r.Step(answerMsg(2, 1, 2, true, 3))
	is(t, "Commit", r.View().Commit, 3)
	_, _, e := r.Change(4, true)
	is(t, "Change", e, 0)

	// Commit is the snapshot's Index here, whose Term is the current one.
	r = led(t, 1, api.Hard{}, []int{1})
	r.Compact("x")
	_, _, e = r.Change(2, true)
	is(t, "Change behind a snapshot", e, 0)
}

// Advancing Commit: entries of an earlier Term only with one of the current Term
// behind them.
func TestCommitTerm(t *testing.T) {
	r := led(t, 1, api.Hard{Term: 3, Log: row(1, 1, 2, 3)}, nodesTo(5))
	yes := func(from, index, commit int) {
		t.Helper()
		r.Step(answerMsg(from, 1, 4, true, index))
		is(t, fmt.Sprint("Commit after ", index, " from ", from), r.View().Commit, commit)
	}
	for p := 2; p <= 5; p++ {
		yes(p, 3, 0)
	}
	yes(2, 4, 0)
	r.Propose("a", "b")
	yes(4, 6, 4)
	yes(5, 5, 5)
	yes(3, 6, 6)
	yes(2, 6, 6)
}

// Advancing Commit: with four Members it takes three; who is no Member doesn't
// count, the leader neither.
func TestCommitMajority(t *testing.T) {
	r := led(t, 1, api.Hard{}, nodesTo(4))
	for i, want := range []int{0, 1, 1} {
		r.Step(answerMsg(2+i, 1, 1, true, 1))
		is(t, "Commit of four", r.View().Commit, want)
	}
	_, out, e := r.Change(1, false)
	is(t, "Change", []any{len(out), e, r.View().Members}, []any{3, 0, []int{2, 3, 4}})
	r.Step(answerMsg(2, 1, 1, true, 2))
	is(t, "a leader that is no Member doesn't count", []int{r.View().Commit, r.View().Role}, []int{1, 3})
	is(t, "it reminds the others", ticks(r, 2), msgs())
	is(t, "it reminds the others", len(r.Tick()), 3)
	index, out, e := r.Propose("x")
	is(t, "it proposes", []any{index, len(out), e}, []any{3, 3, 0})
	is(t, "the last answer", r.Step(answerMsg(4, 1, 1, true, 2)), msgs())
	v := r.View()
	is(t, "it steps down", []int{v.Commit, v.Role, v.Leader, v.Left, v.Hard.Term, v.Hard.Vote}, []int{2, 1, 0, 10, 1, 1})
	is(t, "and waits for ever", ticks(r, 100), msgs())
	ignores(t, "a late answer", r, answerMsg(3, 1, 1, true, 2))
}

// Advancing Commit: a leader that removes itself and is not needed steps down
// within that call, and it waits anew.
func TestStepDown(t *testing.T) {
	r := made(t, 1, api.Hard{}, []int{1, 2}, 1, 2, 3)
	ticks(r, 11)
	r.Step(votedMsg(2, 1, 1, true))
	r.Step(answerMsg(2, 1, 1, true, 1))
	_, _, e := r.Change(1, false)
	is(t, "Change", []any{e, r.View().Role, r.View().Left}, []any{0, 3, 12})
	is(t, "a Yes with nothing new", []any{r.Step(answerMsg(2, 1, 1, true, 1)), r.View().Role},
		[]any{msgs(appendMsg(1, 2, 1, 1, 1, 1, mem(2, 1, 2))), 3})
	is(t, "a Yes", r.Step(answerMsg(2, 1, 1, true, 2)), msgs())
	is(t, "a follower", r.View(), View{api.Hard{Term: 1, Vote: 1, Log: []api.Entry{none(1, 1), mem(2, 1, 2)}}, 1, 0, 2, 13, []int{2}})
	index, out, e := r.Propose("x")
	errOf(t, "Propose", index, out, e, api.ErrState)
}

// Advancing Commit: a Change alone may commit what waited for more, but tells of it
// only later.
func TestChangeCommits(t *testing.T) {
	r := led(t, 1, api.Hard{}, nodesTo(2))
	r.Step(answerMsg(2, 1, 1, true, 1))
	r.Propose("a", "b")
	is(t, "Commit of two", r.View().Commit, 1)
	_, out, e := r.Change(2, false)
	is(t, "Change", []any{out, e, r.View().Commit}, []any{msgs(), 0, 4})

	r = led(t, 1, api.Hard{}, nodesTo(4))
	r.Step(answerMsg(2, 1, 1, true, 1))
	r.Step(answerMsg(3, 1, 1, true, 1))
	r.Propose("a")
	r.Step(answerMsg(2, 1, 1, true, 2))
	is(t, "Commit of four", r.View().Commit, 1)
	_, out, e = r.Change(4, false)
	last := mem(3, 1, 1, 2, 3)
	is(t, "Change", []any{out, e, r.View().Commit}, []any{msgs(appendMsg(1, 2, 1, 2, 1, 1, last), appendMsg(1, 3, 1, 1, 1, 1, en(2, 1, "a"), last)), 0, 2})
}

// Advancing Commit: it never goes back, when the Members become more neither.
func TestCommitStays(t *testing.T) {
	r := led(t, 1, api.Hard{}, nodesTo(1))
	r.Propose("a", "b", "c")
	_, _, e := r.Change(2, true)
	is(t, "Change", []any{e, r.View().Commit}, []any{0, 4})
	for index, want := range []int{4, 4, 4, 4, 4, 5} {
		r.Step(answerMsg(2, 1, 1, true, index))
		is(t, fmt.Sprint("Commit after ", index), r.View().Commit, want)
	}
}

// P8.6: Compact: what the snapshot is, and what stays.
func TestCompact(t *testing.T) {
	h := api.Hard{Term: 3, Log: []api.Entry{none(1, 1), mem(2, 1, 3, 1), en(3, 2, "x"), mem(4, 3, 1), en(5, 3, "y")}}
	for commit, snap := range []api.Snap{
		{},
		{Index: 1, Term: 1, Members: []int{2, 1}},
		{Index: 2, Term: 1, Members: []int{3, 1}},
		{Index: 3, Term: 2, Members: []int{3, 1}},
		{Index: 4, Term: 3, Members: []int{1}},
		{Index: 5, Term: 3, Members: []int{1}},
	} {
		r := made(t, 1, h, []int{2, 1})
		r.Step(appendMsg(3, 1, 3, 5, 3, commit))
		is(t, "Commit", r.View().Commit, commit)
		if commit == 0 {
			is(t, "Compact without Commit", []any{r.Compact("s"), r.View().Hard}, []any{api.ErrState, h})
			continue
		}
		snap.Data = "s"
		is(t, "Compact", []any{r.Compact("s"), r.Compact("s")}, []any{0, api.ErrState})
		is(t, "the state", r.View(), View{api.Hard{Term: 3, Snap: snap, Log: h.Log[commit:]}, 1, 3, commit, 10, []int{1}})
		r.Step(appendMsg(3, 1, 3, 5, 3, 5))
		if commit < 5 {
			is(t, "Compact again", []any{r.Compact(""), r.View().Hard}, []any{0, api.Hard{Term: 3, Snap: api.Snap{Index: 5, Term: 3, Members: []int{1}}}})
		}
	}
}

// P8.6: without a word about Members in the entries, those of the last snapshot
// stay; none at all if New was given none.
func TestCompactMembers(t *testing.T) {
	h := hard()
	h.Log = row(5, 2, 3)
	r := made(t, 1, h, []int{8})
	r.Step(appendMsg(2, 1, 5, 6, 3, 5))
	is(t, "Compact", []any{r.Compact("t"), r.View().Hard.Snap}, []any{0, api.Snap{Index: 5, Term: 2, Members: []int{3, 1, 2}, Data: "t"}})
	r = made(t, 1, api.Hard{}, nil)
	r.Step(appendMsg(2, 1, 1, 0, 0, 1, none(1, 1), mem(2, 1, 1, 2)))
	is(t, "Compact", []any{r.Compact(""), r.View().Hard.Snap, r.View().Members}, []any{0, api.Snap{Index: 1, Term: 1}, []int{1, 2}})
}

// P8.6: the data of a snapshot, and which error is first.
func TestCompactErrors(t *testing.T) {
	long := strings.Repeat("x", snapData+1)
	r := led(t, 1, api.Hard{}, []int{1})
	stays(t, "too long", r, func() []api.Msg {
		is(t, "Compact of too much", r.Compact(long), api.ErrArg)
		return nil
	})
	is(t, "Compact of much", r.Compact(long[1:]), api.OK)
	is(t, "the snapshot", r.View().Hard.Snap, api.Snap{Index: 1, Term: 1, Members: []int{1}, Data: long[1:]})
	is(t, "Compact without an entry", []any{r.Compact("x"), r.Compact(long)}, []any{api.ErrState, api.ErrState})
	r.Propose("x")
	is(t, "Compact with an entry", []any{r.Compact(long), r.Compact("x")}, []any{api.ErrArg, api.OK})
	is(t, "a new node", []any{made(t, 1, hard(), nil).Compact("x"), made(t, 1, api.Hard{}, nil).Compact(long)}, []any{api.ErrState, api.ErrState})
}

// P8.6: a leader sends its snapshot to whom it can't send entries, and goes on
// from there.
func TestSendSnap(t *testing.T) {
	r := led(t, 1, api.Hard{}, nodesTo(3))
	r.Step(answerMsg(2, 1, 1, true, 1))
	r.Propose("a", "b", "c")
	r.Step(answerMsg(2, 1, 1, true, 3))
	is(t, "Compact", r.Compact("s"), 0)
	s := api.Snap{Index: 3, Term: 1, Members: nodesTo(3), Data: "s"}
	c := en(4, 1, "c")
	is(t, "a beat", ticks(r, 3), msgs(appendMsg(1, 2, 1, 3, 1, 3, c), snapMsg(1, 3, 1, s)))
	is(t, "a No of node 2", r.Step(answerMsg(2, 1, 1, false, 3)), msgs(snapMsg(1, 2, 1, s)))
	is(t, "a Yes up to the snapshot", r.Step(answerMsg(3, 1, 1, true, 3)), msgs(appendMsg(1, 3, 1, 3, 1, 3, c)))
	is(t, "a Yes ahead of it", r.Step(answerMsg(2, 1, 1, true, 2)), msgs(appendMsg(1, 2, 1, 3, 1, 3, c)))
	is(t, "a Yes up to the end", []any{r.Step(answerMsg(3, 1, 1, true, 4)), r.View().Commit}, []any{msgs(), 4})
	is(t, "a No to start with", r.Step(answerMsg(3, 1, 1, false, math.MaxInt)), msgs(snapMsg(1, 3, 1, s)))
}

// P8.6: Entries, from anywhere on.
func TestEntries(t *testing.T) {
	h := hard()
	r := made(t, 1, h, nil)
	is(t, "Entries of a new node", []any{r.Entries(0), r.Entries(5), r.Entries(4)}, []any{row(0), row(0), row(0)})
	r.Step(appendMsg(2, 1, 5, 7, 5, 6))
	for _, from := range []int{math.MinInt, -1, 0, 1, 4, 5} {
		is(t, fmt.Sprintf("Entries(%d)", from), r.Entries(from), h.Log[:2])
	}
	is(t, "Entries(6)", r.Entries(6), h.Log[1:2])
	for _, from := range []int{7, 8, 100, math.MaxInt} {
		is(t, fmt.Sprintf("Entries(%d)", from), r.Entries(from), row(0))
	}
	three := led(t, 1, api.Hard{Log: row(1, 0, 0)}, []int{1})
	is(t, "Entries", []any{three.Entries(9), three.Entries(3), three.Entries(1)},
		[]any{row(0), []api.Entry{none(3, 1)}, append(row(1, 0, 0), none(3, 1))})
	far := made(t, 1, api.Hard{Snap: api.Snap{Index: math.MaxInt, Members: []int{1}}}, nil)
	for _, from := range []int{math.MinInt, 0, math.MaxInt - 1, math.MaxInt} {
		is(t, "Entries at the end of all ints", far.Entries(from), row(0))
	}
}

// P8.7: a nil Raft and a zero one.
func TestZero(t *testing.T) {
	var zero Raft
	for _, r := range []*Raft{nil, &zero} {
		for range 2 {
			is(t, "View", r.View(), View{})
			is(t, "Tick", ticks(r, 30), msgs())
			for to := range nodes + 2 {
				for kind := range 7 {
					for _, term := range []int{0, 1} {
						is(t, "Step", r.Step(api.Msg{Kind: kind, From: 1, To: to, Term: term, Yes: true, Entries: row(1, 1), Snap: hard().Snap}), msgs())
					}
				}
			}
			for _, l := range [][]string{nil, {"a"}, {strings.Repeat("x", maxData+1)}} {
				index, out, e := r.Propose(l...)
				errOf(t, "Propose", index, out, e, api.ErrState)
			}
			for node := range nodes + 2 {
				for _, add := range []bool{false, true} {
					index, out, e := r.Change(node, add)
					errOf(t, "Change", index, out, e, api.ErrState)
				}
			}
			is(t, "Compact", []any{r.Compact(""), r.Compact(strings.Repeat("x", snapData+1))}, []any{api.ErrState, api.ErrState})
			is(t, "Entries", []any{r.Entries(0), r.Entries(1), r.Entries(math.MinInt), r.Entries(math.MaxInt)}, []any{row(0), row(0), row(0), row(0)})
		}
	}
	is(t, "a zero Raft stays one", text(zero), text(Raft{}))
}
