package raft

import (
	"fmt"
	"math"
	"slices"
	"strings"
	"testing"

	"parapet/api"
)

// inRoles are the nodes 1 of three in each role, in Term 6 and with the same log.
func inRoles(t *testing.T) map[string]*Raft {
	t.Helper()
	h := api.Hard{Term: 5, Log: row(1, 2, 5)}
	l := map[string]*Raft{"candidate": made(t, 1, h, nodesTo(3)), "leader": led(t, 1, h, nodesTo(3))}
	ticks(l["candidate"], 10)
	h.Term = 6
	l["follower"] = made(t, 1, h, nodesTo(3))
	return l
}

// P8.4: what no node handles, and what does not even raise its Term.
func TestIgnored(t *testing.T) {
	for role, r := range inRoles(t) {
		for _, m := range []api.Msg{
			voteMsg(2, 1, 9, 9, 9),
			votedMsg(2, 1, 6, true),
			votedMsg(2, 1, 9, true),
			appendMsg(2, 1, 9, 0, 0, 2, row(1, 2, 9)...),
			appendMsg(2, 1, 6, 2, 5, 2),
			answerMsg(2, 1, 6, true, 3),
			answerMsg(2, 1, 9, false, 0),
			snapMsg(2, 1, 9, hard().Snap),
		} {
			for what, l := range map[string][]int{"From": {0, 1, -1, nodes + 1, math.MaxInt, math.MinInt}, "To": {0, 2, 3, -1, nodes + 1, math.MaxInt, math.MinInt}, "Kind": {0, 6, -1, -3, 257, 259, math.MaxInt, math.MinInt}, "Term": {-1, -9, math.MinInt}} {
				for _, n := range l {
					x := m
					*map[string]*int{"From": &x.From, "To": &x.To, "Kind": &x.Kind, "Term": &x.Term}[what] = n
					ignores(t, role+": "+what, r, x)
				}
			}
		}
		ignores(t, role, r, api.Msg{})
	}
}

// P8.4: a later Term: the node follows it, whatever else the message says.
func TestLater(t *testing.T) {
	for _, m := range []api.Msg{
		voteMsg(2, 1, 8, 1, 5),
		votedMsg(2, 1, 8, true),
		appendMsg(2, 1, 8, 2, 5, 2, none(4, 8)),
		appendMsg(2, 1, 8, 2, 5, 2, none(3, 9)),
		answerMsg(9, 1, 8, true, 3),
		answerMsg(2, 1, 8, false, 3),
		snapMsg(2, 1, 8, api.Snap{}),
		snapMsg(2, 1, 8, api.Snap{Index: 9, Term: 9, Members: []int{1}}),
	} {
		for role, r := range inRoles(t) {
			v := r.View()
			v.Hard.Term, v.Hard.Vote, v.Role, v.Leader = 8, 0, 1, 0
			want := msgs()
			if m.Kind == 1 {
				want = msgs(votedMsg(1, 2, 8, false))
			}
			is(t, role+": the reply to "+text(m), r.Step(m), want)
			is(t, role+": the state after "+text(m), r.View(), v)
		}
	}
	for role, r := range inRoles(t) {
		far := math.MaxInt
		is(t, role, r.Step(voteMsg(2, 1, far, 3, 6)), msgs(votedMsg(1, 2, far, true)))
		is(t, role, []int{r.View().Hard.Term, r.View().Hard.Vote, r.View().Role}, []int{far, 2, 1})
	}
}

// P8.4: Left stays when a later Term is entered.
func TestLaterLeft(t *testing.T) {
	r := made(t, 1, api.Hard{}, nodesTo(3), 7, 8)
	ticks(r, 5)
	r.Step(answerMsg(2, 1, 4, true, 0))
	is(t, "Left", []int{r.View().Left, r.View().Hard.Term}, []int{12, 4})
	r.Step(appendMsg(2, 1, 5, 0, 0, 0))
	is(t, "Left", []int{r.View().Left, r.View().Leader}, []int{18, 2})
	r.Step(voteMsg(3, 1, 6, 0, -1))
	is(t, "a vote that is not granted", []int{r.View().Left, r.View().Leader, r.View().Hard.Vote}, []int{18, 0, 0})
	ticks(r, 1)
	r.Step(voteMsg(3, 1, 6, 0, 0))
	is(t, "a vote that is", []int{r.View().Left, r.View().Leader, r.View().Hard.Vote}, []int{17, 0, 3})
}

// P8.4: an earlier Term: who asks hears of it; nothing else happens.
func TestEarlier(t *testing.T) {
	for role, r := range inRoles(t) {
		for _, term := range []int{0, 1, 5} {
			for _, x := range []struct{ m, want []api.Msg }{
				{msgs(voteMsg(2, 1, term, 9, 9), voteMsg(9, 1, term, -1, 0)), msgs(votedMsg(1, 2, 6, false), votedMsg(1, 9, 6, false))},
				{msgs(votedMsg(2, 1, term, true), votedMsg(3, 1, term, false)), msgs()},
				{msgs(appendMsg(2, 1, term, 2, 5, 2), appendMsg(7, 1, term, 0, 0, 0, en(9, 9, ""))), msgs(answerMsg(1, 2, 6, false, 0), answerMsg(1, 7, 6, false, 0))},
				{msgs(answerMsg(2, 1, term, true, 3), answerMsg(2, 1, term, false, 3)), msgs()},
				{msgs(snapMsg(2, 1, term, hard().Snap), snapMsg(8, 1, term, api.Snap{})), msgs(answerMsg(1, 2, 6, false, 0), answerMsg(1, 8, 6, false, 0))},
			} {
				was := r.View()
				is(t, role, append(r.Step(x.m[0]), r.Step(x.m[1])...), x.want)
				is(t, role, r.View(), was)
			}
		}
	}
}

// P8.4: MsgVote: who gets the vote.
func TestVote(t *testing.T) {
	h := api.Hard{Term: 5, Log: row(1, 2, 3, 3)}
	for _, x := range []struct {
		vote, from, index, logTerm int
		yes                        bool
	}{
		{0, 2, 3, 3, true},
		{0, 2, 4, 3, true},
		{0, 2, math.MaxInt, 3, true},
		{0, 2, 2, 3, false},
		{0, 2, 0, 3, false},
		{0, 2, -1, 3, false},
		{0, 2, 0, 4, true},
		{0, 2, math.MinInt, math.MaxInt, true},
		{0, 2, 9, 2, false},
		{0, 2, math.MaxInt, -1, false},
		{0, 2, math.MaxInt, math.MinInt, false},
		{2, 2, 3, 3, true},
		{2, 2, 2, 3, false},
		{3, 2, 3, 3, false},
		{3, 2, 9, 9, false},
		{1, 2, 9, 9, false},
		{100, 2, 9, 9, false},
		{0, 9, 3, 3, true},
		{9, 9, 3, 4, true},
	} {
		h.Vote = x.vote
		r := made(t, 1, h, nodesTo(3), 1, 5)
		ticks(r, 3)
		is(t, text(x), r.Step(voteMsg(x.from, 1, 5, x.index, x.logTerm)), msgs(votedMsg(1, x.from, 5, x.yes)))
		want := View{h, 1, 0, 0, 8, nodesTo(3)}
		if x.yes {
			want.Hard.Vote, want.Left = x.from, 15
		}
		is(t, text(x), r.View(), want)
	}
}

// P8.4: MsgVote: what is last may be the snapshot.
func TestVoteSnap(t *testing.T) {
	h := hard()
	h.Log, h.Vote = nil, 0
	r := made(t, 1, h, nil)
	is(t, "below", append(r.Step(voteMsg(2, 1, 5, 3, 2)), r.Step(voteMsg(2, 1, 5, 9, 1))...), msgs(votedMsg(1, 2, 5, false), votedMsg(1, 2, 5, false)))
	is(t, "the same", r.Step(voteMsg(2, 1, 5, 4, 2)), msgs(votedMsg(1, 2, 5, true)))
	is(t, "another", r.Step(voteMsg(3, 1, 5, 4, 2)), msgs(votedMsg(1, 3, 5, false)))
	is(t, "the same again", r.Step(voteMsg(2, 1, 5, 4, 2)), msgs(votedMsg(1, 2, 5, true)))
}

// P8.4: MsgVote: in their own Term, candidates and leaders have voted; a follower
// that grants its vote still follows.
func TestVoteRoles(t *testing.T) {
	for role, r := range inRoles(t) {
		if role == "follower" {
			r.Step(appendMsg(3, 1, 6, 2, 5, 0))
			is(t, role, r.Step(voteMsg(2, 1, 6, 9, 9)), msgs(votedMsg(1, 2, 6, true)))
			is(t, role, []int{r.View().Leader, r.View().Hard.Vote}, []int{3, 2})
			continue
		}
		was := r.View()
		is(t, role, r.Step(voteMsg(2, 1, 6, 9, 9)), msgs(votedMsg(1, 2, 6, false)))
		is(t, role, r.View(), was)
	}
}

// P8.4: MsgVoted: which votes count.
func TestVoted(t *testing.T) {
	r := made(t, 1, api.Hard{Term: 1}, nodesTo(5))
	ignores(t, "a follower", r, votedMsg(2, 1, 1, true))
	ticks(r, 10)
	for _, m := range []api.Msg{
		votedMsg(2, 1, 2, false), votedMsg(3, 1, 2, false), votedMsg(4, 1, 2, false),
		votedMsg(6, 1, 2, true), votedMsg(9, 1, 2, true), votedMsg(7, 1, 2, true),
		votedMsg(2, 1, 1, true), votedMsg(3, 1, 0, true),
		votedMsg(5, 1, 2, true), votedMsg(5, 1, 2, true), votedMsg(5, 1, 2, true), votedMsg(5, 1, 2, false),
	} {
		ignores(t, "too few", r, m)
	}
	is(t, "enough", len(r.Step(votedMsg(2, 1, 2, true))), 4)
	is(t, "Role", r.View().Role, 3)
	ignores(t, "a leader", r, votedMsg(3, 1, 2, true))
	ignores(t, "a leader", r, votedMsg(4, 1, 2, false))
}

// P8.4: MsgAppend: what is wrong in it, so that no more than its Term counts.
func TestAppendIgnored(t *testing.T) {
	h := api.Hard{Term: 6, Log: row(1, 2, 5)}
	wrong := map[string][]api.Entry{
		"an Index too low":      row(2, 6),
		"an Index too high":     row(4, 6),
		"Index 0":               {none(0, 6)},
		"a later Index":         {none(3, 6), none(3, 6)},
		"a gap":                 {none(3, 6), none(5, 6)},
		"a far Index":           {none(3, 6), none(math.MaxInt, 6)},
		"a Term below":          row(3, -1),
		"a Term far below":      row(3, math.MinInt, 6),
		"a later Term below":    row(3, 0, -1),
		"Terms that decrease":   row(3, 5, 4),
		"Terms that turn back":  row(3, 5, 6, 5),
		"a Term above":          row(3, 7),
		"a later Term above":    row(3, 6, 7),
		"Kind 3":                {{Index: 3, Term: 6, Kind: 3}},
		"Kind -1":               {{Index: 3, Term: 6, Kind: -1}},
		"a later Kind":          {none(3, 6), {Index: 4, Term: 6, Kind: 4}},
		"a far Kind":            {{Index: 3, Term: 6, Kind: math.MinInt}},
		"Members, and data too": {{Index: 3, Term: 6, Kind: 2, Data: "x"}},
	}
	for i, l := range noMembers {
		wrong[fmt.Sprint("Members ", i)] = []api.Entry{mem(3, 6, l...)}
		wrong[fmt.Sprint("later Members ", i)] = []api.Entry{mem(3, 6, 1), mem(4, 6, l...)}
	}
	for what, l := range wrong {
		r := made(t, 1, h, nodesTo(3))
		ticks(r, 2)
		ignores(t, what, r, appendMsg(2, 1, 6, 2, 5, 2, l...))
		c := made(t, 1, api.Hard{Term: 5, Log: h.Log}, nodesTo(3))
		ticks(c, 10)
		ignores(t, what+", a candidate", c, appendMsg(2, 1, 6, 2, 5, 2, l...))
	}
	ignores(t, "a leader", inRoles(t)["leader"], appendMsg(2, 1, 6, 3, 6, 3))
	ignores(t, "a leader", inRoles(t)["leader"], appendMsg(2, 1, 6, 9, 6, 3, none(10, 6)))
	far := made(t, 1, h, nodesTo(3))
	ignores(t, "no Index beyond", far, appendMsg(2, 1, 6, math.MaxInt, 6, 0, none(math.MinInt, 6)))
}

// P8.4: MsgAppend: who gets one that is right follows, whatever he replies.
func TestAppendFollows(t *testing.T) {
	for role, r := range inRoles(t) {
		if role == "leader" {
			continue
		}
		v := r.View()
		v.Role, v.Leader, v.Left = 1, 2, 10
		ticks(r, 2)
		is(t, role, r.Step(appendMsg(2, 1, 6, 9, 6, 3)), msgs(answerMsg(1, 2, 6, false, 2)))
		is(t, role, r.View(), v)
		v.Leader = 9
		ticks(r, 9)
		is(t, role, r.Step(appendMsg(9, 1, 6, 2, 5, 0)), msgs(answerMsg(1, 9, 6, true, 2)))
		is(t, role, r.View(), v)
	}
}

// P8.4: MsgAppend: the chapter's example, and what the node has ahead.
func TestAppendAhead(t *testing.T) {
	plain := api.Hard{Term: 5, Log: row(1, 2, 3, 3)}
	for _, x := range []struct {
		h                   api.Hard
		index, logTerm      int
		yes                 bool
		want                int
		entries             []api.Entry
		wantLast, wantTerms []int
	}{
		{h: plain, index: 9, logTerm: 3, want: 3},
		{h: plain, index: 4, logTerm: 3, want: 3},
		{h: plain, index: 4, logTerm: 0, want: 3},
		{h: plain, index: math.MaxInt, logTerm: 3, want: 3},
		{h: plain, index: 9, logTerm: 3, want: 3, entries: row(10, 5)},
		{h: plain, index: 3, logTerm: 2, want: 2},
		{h: plain, index: 3, logTerm: 4, want: 2},
		{h: plain, index: 3, logTerm: -3, want: 2},
		{h: plain, index: 2, logTerm: 2, want: 1},
		{h: plain, index: 1, logTerm: 3, want: 0},
		{h: plain, index: 0, logTerm: 1, want: 0},
		{h: plain, index: 3, logTerm: 3, yes: true, want: 3},
		{h: plain, index: 2, logTerm: 3, yes: true, want: 2},
		{h: plain, index: 1, logTerm: 2, yes: true, want: 1},
		{h: plain, index: 0, logTerm: 0, yes: true, want: 0},
		{h: plain, index: -1, logTerm: 9, yes: true, want: -1},
		{h: plain, index: math.MinInt, yes: true, want: math.MinInt},
		{h: plain, index: math.MinInt, yes: true, want: math.MinInt + 1, entries: row(math.MinInt+1, 5)},
		{h: api.Hard{Term: 5}, index: 0, logTerm: 0, yes: true, want: 0},
		{h: api.Hard{Term: 5}, index: 1, logTerm: 0, want: 0},
		{h: api.Hard{Term: 5}, index: 0, logTerm: 3, want: 0},
		{h: api.Hard{Term: 5, Snap: api.Snap{Term: 3}}, index: 0, logTerm: 3, yes: true, want: 0},
		{h: api.Hard{Term: 5, Snap: api.Snap{Term: 3}}, index: 0, logTerm: 0, want: 0},
		{h: hard(), index: 4, logTerm: 2, yes: true, want: 4},
		{h: hard(), index: 4, logTerm: 1, want: 3},
		{h: hard(), index: 3, logTerm: 9, yes: true, want: 3},
		{h: hard(), index: 0, logTerm: 9, yes: true, want: 0},
		{h: hard(), index: 7, logTerm: 5, yes: true, want: 7},
		{h: hard(), index: 7, logTerm: 3, want: 6},
		{h: hard(), index: 8, logTerm: 5, want: 7},
	} {
		r := made(t, 1, x.h, nodesTo(3))
		is(t, text(x), r.Step(appendMsg(2, 1, 5, x.index, x.logTerm, 0, x.entries...)), msgs(answerMsg(1, 2, 5, x.yes, x.want)))
		is(t, text(x), r.View().Hard, x.h)
		is(t, text(x), r.View().Commit, x.h.Snap.Index)
	}
}

// P8.4: MsgAppend: entries that are there already, that differ, and new ones.
func TestAppendEntries(t *testing.T) {
	log := row(1, 1, 2, 2, 4)
	for _, x := range []struct {
		index, logTerm int
		entries        []api.Entry
		want           []api.Entry
	}{
		{4, 4, row(5, 4), append(row(1, 1, 2, 2, 4), row(5, 4)...)},
		{4, 4, row(5, 4, 5, 6), row(1, 1, 2, 2, 4, 4, 5, 6)},
		{0, 0, row(1, 1, 2, 2, 4), log},
		{0, 0, row(1, 1), log},
		{1, 1, row(2, 2), log},
		{2, 2, row(3, 2, 4, 6), row(1, 1, 2, 2, 4, 6)},
		{1, 1, row(2, 2, 3), row(1, 1, 2, 3)},
		{1, 1, row(2, 2, 2, 3, 3), row(1, 1, 2, 2, 3, 3)},
		{0, 0, row(1, 0), row(1, 0)},
		{0, 0, row(1, 6, 6), row(1, 6, 6)},
		{0, 0, row(1, 1, 1, 2), row(1, 1, 1, 2)},
		{3, 2, row(4, 2), row(1, 1, 2, 2, 2)},
		{-2, 7, row(-1, 0, 0, 1, 3), row(1, 1, 3)},
		{-1, 7, row(0, 0), log},
		{1, 1, []api.Entry{en(2, 2, "other")}, log},
		{3, 2, []api.Entry{{Index: 4, Term: 5, Members: []int{0}}}, append(row(1, 1, 2, 2), api.Entry{Index: 4, Term: 5, Members: []int{0}})},
		{4, 4, row(5, same(6, 20)...), append(slices.Clone(log), row(5, same(6, 20)...)...)},
		{4, 4, []api.Entry{en(5, 4, strings.Repeat("x", maxData+1))}, append(slices.Clone(log), en(5, 4, strings.Repeat("x", maxData+1)))},
	} {
		r := made(t, 1, api.Hard{Term: 6, Log: log}, nodesTo(3))
		end := x.index + len(x.entries)
		is(t, text(x), r.Step(appendMsg(2, 1, 6, x.index, x.logTerm, 0, x.entries...)), msgs(answerMsg(1, 2, 6, true, end)))
		is(t, text(x), r.View().Hard, api.Hard{Term: 6, Log: x.want})
	}
}

// P8.4: MsgAppend: entries at or below Commit, and at or below the Snap's Index.
func TestAppendBelow(t *testing.T) {
	start := func() *Raft {
		h := hard()
		h.Log = row(5, 2, 3, 3, 5)
		r := made(t, 1, h, nil)
		is(t, "the start", r.Step(appendMsg(2, 1, 5, 8, 5, 6)), msgs(answerMsg(1, 2, 5, true, 8)))
		return r
	}
	log := row(5, 2, 3, 3, 5)
	for _, x := range []struct {
		index, logTerm int
		entries        []api.Entry
		yes            bool
		want           int
		log            []api.Entry
	}{
		{0, 9, row(1, 9, 9, 9, 9)[:0], true, 0, log},
		{0, 9, row(1, 0, 0, 1, 1), true, 4, log},
		{2, 9, row(3, 5, 5), true, 4, log},
		{2, 9, row(3, 0, 0, 2, 3), true, 6, log},
		{3, 9, row(4, 0, 2, 3, 3, 5, 5), true, 9, append(slices.Clone(log), row(9, 5)...)},
		{3, 9, row(4, 0, 1), false, 6, log},
		{3, 9, row(4, 5, 5), false, 6, log},
		{4, 2, row(5, 2, 4), false, 6, log},
		{4, 2, row(5, 3, 3, 3, 5, 5), false, 6, log},
		{4, 2, row(5, 2, 3, 4), true, 7, row(5, 2, 3, 4)},
		{5, 2, row(6, 2), false, 6, log},
		{6, 3, row(7, 5, 5), true, 8, row(5, 2, 3, 5, 5)},
		{-5, 0, row(-4, same(0, 10)...), false, 6, log},
	} {
		r := start()
		is(t, text(x), r.Step(appendMsg(3, 1, 5, x.index, x.logTerm, 99, x.entries...)), msgs(answerMsg(1, 3, 5, x.yes, x.want)))
		commit := 6
		if x.yes {
			commit = max(6, x.want)
		}
		is(t, text(x), r.View(), View{api.Hard{Term: 5, Vote: 2, Snap: hard().Snap, Log: x.log}, 1, 3, commit, 10, []int{3, 1, 2}})
	}
}

// P8.4: MsgAppend: how far Commit goes.
func TestAppendCommit(t *testing.T) {
	for _, x := range []struct {
		index, commit int
		entries       []api.Entry
		want          int
	}{
		{3, 3, nil, 3},
		{3, 2, nil, 2},
		{3, 99, nil, 3},
		{3, math.MaxInt, nil, 3},
		{2, 99, nil, 2},
		{0, 99, nil, 1},
		{3, 0, nil, 1},
		{3, -1, nil, 1},
		{3, math.MinInt, nil, 1},
		{0, 99, row(1, 1, 1), 2},
		{1, 99, row(2, 1), 2},
		{3, 99, row(4, 2, 2), 5},
		{3, 4, row(4, 2, 2), 4},
		{1, 99, row(2, 2), 2},
	} {
		r := made(t, 1, api.Hard{Term: 2, Log: row(1, 1, 1, 1)}, nodesTo(3))
		r.Step(appendMsg(2, 1, 2, 1, 1, 1))
		is(t, text(x), len(r.Step(appendMsg(2, 1, 2, x.index, min(x.index, 1), x.commit, x.entries...))), 1)
		is(t, text(x), r.View().Commit, x.want)
	}
}

// P8.4: the Members turn with the log: by what is appended, truncated and made a
// snapshot of.
func TestAppendMembers(t *testing.T) {
	r := made(t, 1, api.Hard{}, []int{2, 1})
	step := func(what string, m api.Msg, members ...int) {
		t.Helper()
		r.Step(m)
		is(t, what, r.View().Members, members)
	}
	step("entries", appendMsg(2, 1, 1, 0, 0, 0, none(1, 1), mem(2, 1, 5, 4), none(3, 1), mem(4, 1, 3), en(5, 1, "")), 3)
	step("the last ones differ", appendMsg(2, 1, 2, 4, 1, 0, none(5, 2)), 3)
	step("the last Members differ", appendMsg(2, 1, 3, 3, 1, 0, none(4, 3)), 5, 4)
	step("other Members", appendMsg(2, 1, 4, 3, 1, 0, mem(4, 4, 7), mem(5, 4, 8, 1)), 8, 1)
	step("all differ", appendMsg(2, 1, 5, 1, 1, 0, none(2, 5)), 2, 1)
	step("at last some again", appendMsg(2, 1, 5, 2, 5, 3, mem(3, 5, 9, 1), none(4, 5), mem(5, 5, 6, 1)), 6, 1)
	r.Compact("")
	is(t, "Compact", r.View().Members, []int{6, 1})
	step("what is behind the snapshot differs", appendMsg(2, 1, 6, 4, 5, 3, none(5, 6)), 9, 1)
	step("a snapshot", snapMsg(2, 1, 6, api.Snap{Index: 4, Term: 5, Members: []int{5}}), 5)
	step("behind it", appendMsg(2, 1, 6, 5, 6, 4, mem(6, 6, 1, 3)), 1, 3)
	step("a snapshot of what is there", snapMsg(2, 1, 6, api.Snap{Index: 5, Term: 6, Members: []int{7}}), 1, 3)
	step("another snapshot", snapMsg(2, 1, 6, api.Snap{Index: 6, Term: 5, Members: []int{9, 1}}), 9, 1)
}

// P8.4: MsgAnswer: who handles it, and from whom.
func TestAnswerIgnored(t *testing.T) {
	for role, r := range inRoles(t) {
		for _, yes := range []bool{true, false} {
			for _, from := range []int{4, 9, 2} {
				if role != "leader" || from > 3 {
					ignores(t, role, r, answerMsg(from, 1, 6, yes, 1))
				}
			}
		}
	}
	r := inRoles(t)["leader"]
	for _, index := range []int{4, 5, math.MaxInt} {
		ignores(t, "a Yes too far", r, answerMsg(2, 1, 6, true, index))
	}
	is(t, "the Match is as it was", r.Step(answerMsg(2, 1, 6, true, -1)), msgs(appendMsg(1, 2, 6, 0, 0, 0, r.View().Hard.Log...)))
}

// P8.4: MsgAnswer with Yes: Match never goes back, Next follows it.
func TestAnswerYes(t *testing.T) {
	h := api.Hard{Term: 1, Log: row(1, same(1, 11)...)}
	r := led(t, 1, h, nodesTo(3))
	log := append(h.Log, none(12, 2))
	sent := func(index, commit int) []api.Msg {
		l := log[index:]
		return msgs(appendMsg(1, 2, 2, index, min(1, index), commit, l[:min(len(l), batch)]...))
	}
	for _, x := range []struct{ index, match int }{
		{0, 0}, {-1, 0}, {math.MinInt, 0}, {2, 2}, {0, 2}, {2, 2}, {3, 3}, {4, 4}, {3, 4}, {11, 11}, {-1, 11},
	} {
		is(t, text(x), r.Step(answerMsg(2, 1, 2, true, x.index)), sent(x.match, 0))
		is(t, text(x), r.View().Commit, 0)
	}
	is(t, "all", []any{r.Step(answerMsg(2, 1, 2, true, 12)), r.View().Commit}, []any{msgs(), 12})
	is(t, "less", []any{r.Step(answerMsg(2, 1, 2, true, 3)), r.View().Commit}, []any{msgs(), 12})
	is(t, "node 3 hears of Commit", r.Step(answerMsg(3, 1, 2, true, 11)), msgs(appendMsg(1, 3, 2, 11, 1, 12, log[11])))
}

// P8.4: MsgAnswer without Yes: Next goes back, by one at least, to 1 at most.
func TestAnswerNo(t *testing.T) {
	h := api.Hard{Term: 1, Log: row(1, same(1, 11)...)}
	r := led(t, 1, h, nodesTo(3))
	log := append(h.Log, none(12, 2))
	for _, x := range []struct{ index, next int }{
		{99, 11}, {11, 10}, {10, 9}, {9, 8}, {4, 5}, {4, 4}, {math.MaxInt - 1, 3}, {99, 2}, {5, 1}, {0, 1}, {math.MaxInt, 1}, {-1, 1}, {math.MinInt, 1},
	} {
		l := log[x.next-1:]
		want := msgs(appendMsg(1, 3, 2, x.next-1, min(1, x.next-1), 0, l[:min(len(l), batch)]...))
		is(t, text(x), r.Step(answerMsg(3, 1, 2, false, x.index)), want)
	}
	for _, x := range []struct{ index, next int }{{math.MaxInt, 1}, {math.MaxInt - 1, 11}, {-1, 1}, {math.MinInt, 1}} {
		r := led(t, 1, h, nodesTo(3))
		is(t, text(x), r.Step(answerMsg(3, 1, 2, false, x.index))[0].Index, x.next-1)
	}
	is(t, "a Yes", r.Step(answerMsg(3, 1, 2, true, 12)), msgs())
	is(t, "a No after it", r.Step(answerMsg(3, 1, 2, false, 3)), msgs(appendMsg(1, 3, 2, 3, 1, 12, log[3:11]...)))
	is(t, "node 2 is where it was", r.Step(answerMsg(2, 1, 2, true, 11)), msgs(appendMsg(1, 2, 2, 11, 1, 12, log[11])))
}

// P8.4: MsgSnap: what is wrong in it, so that no more than its Term counts.
func TestSnapIgnored(t *testing.T) {
	right := api.Snap{Index: 7, Term: 6, Members: []int{1, 2}, Data: "x"}
	var wrong []api.Snap
	for _, turn := range []func(s *api.Snap){
		func(s *api.Snap) { s.Index = 0 },
		func(s *api.Snap) { s.Index = -1 },
		func(s *api.Snap) { s.Index = math.MinInt },
		func(s *api.Snap) { s.Term = -1 },
		func(s *api.Snap) { s.Term = math.MinInt },
		func(s *api.Snap) { s.Term = 7 },
		func(s *api.Snap) { s.Term = math.MaxInt },
		func(s *api.Snap) { *s = api.Snap{} },
	} {
		s := right
		turn(&s)
		wrong = append(wrong, s)
	}
	for _, l := range noMembers {
		s := right
		s.Members = l
		wrong = append(wrong, s)
	}
	for role, r := range inRoles(t) {
		for _, s := range wrong {
			ignores(t, role, r, snapMsg(2, 1, 6, s))
		}
		if role == "leader" {
			ignores(t, role, r, snapMsg(2, 1, 6, right))
			continue
		}
		is(t, role, r.Step(snapMsg(2, 1, 6, right)), msgs(answerMsg(1, 2, 6, true, 7)))
		is(t, role, r.View(), View{api.Hard{Term: 6, Vote: r.View().Hard.Vote, Snap: right}, 1, 2, 7, 10, []int{1, 2}})
	}
}

// P8.4: MsgSnap: at or below Commit, of an entry that is there, of another, beyond
// the last one.
func TestSnap(t *testing.T) {
	old := hard().Snap
	log := row(5, 2, 3, 3, 5)
	for _, x := range []struct {
		index, term, want int
		log               []api.Entry
	}{
		{1, 0, 6, log},
		{4, 2, 6, log},
		{4, 5, 6, log},
		{5, 2, 6, log},
		{6, 3, 6, log},
		{6, 5, 6, log},
		{7, 3, 7, log[3:]},
		{7, 2, 7, nil},
		{7, 5, 7, nil},
		{8, 5, 8, nil},
		{8, 0, 8, nil},
		{9, 5, 9, nil},
		{9, 0, 9, nil},
		{math.MaxInt, 1, math.MaxInt, nil},
	} {
		h := hard()
		h.Log = log
		r := made(t, 1, h, nil, 1, 2, 3)
		r.Step(appendMsg(2, 1, 5, 8, 5, 6))
		s := api.Snap{Index: x.index, Term: x.term, Members: []int{7, 1}, Data: "new"}
		is(t, text(x), r.Step(snapMsg(3, 1, 5, s)), msgs(answerMsg(1, 3, 5, true, x.want)))
		if x.index <= 6 {
			s = old
		}
		is(t, text(x), r.View(), View{api.Hard{Term: 5, Vote: 2, Snap: s, Log: x.log}, 1, 3, x.want, 13, s.Members})
	}
}

// P8.4: MsgSnap: data beyond what Compact takes.
func TestSnapLong(t *testing.T) {
	r := made(t, 1, api.Hard{}, []int{1, 2})
	s := api.Snap{Index: 1, Members: []int{9}, Data: strings.Repeat("x", snapData+1)}
	is(t, "a long one", r.Step(snapMsg(2, 1, 0, s)), msgs(answerMsg(1, 2, 0, true, 1)))
	is(t, "a long one", r.View().Hard, api.Hard{Snap: s})
}

// Numbers at the end of all ints: no call panics, and each ends.
func TestFar(t *testing.T) {
	far := []int{math.MaxInt, math.MaxInt - 1, math.MaxInt - 2, 1 << 62, 1 << 60, 5, 1, 0, -1, math.MinInt + 1, math.MinInt}
	for _, index := range far[:5] {
		for _, term := range far[:7] {
			for n := range 3 {
				h := api.Hard{Term: term, Snap: api.Snap{Index: index, Term: term, Members: []int{1, 2}}}
				for i := range min(n, math.MaxInt-index) {
					h.Log = append(h.Log, en(index+1+i, term, ""))
				}
				r := made(t, 1, h, nil)
				for _, x := range far {
					for _, y := range far {
						for kind := 1; kind <= 5; kind++ {
							m := api.Msg{Kind: kind, From: 2, To: 1, Term: r.View().Hard.Term, Index: x, LogTerm: y, Commit: y, Yes: y < 1<<60, Snap: api.Snap{Index: x, Term: y, Members: []int{1, 2}}}
							if kind == 3 {
								m.Entries = []api.Entry{{Index: x + 1, Term: max(0, y)}, mem(x+2, max(0, y), 1, 2)}
							}
							r.Step(m)
							r.Propose("a")
							r.Change(3, x > y)
							r.Entries(x)
							r.Compact("")
							ticks(r, 5)
						}
					}
				}
				r.View()
			}
		}
	}
}
