package raft

import (
	"fmt"
	"math"
	"slices"
	"testing"

	"parapet/api"
)

// In these tests the chapter's limits are written as numbers.
const (
	nodes    = 9
	batch    = 8
	maxData  = 4000
	snapData = 65536
)

// wrongLists are no lists of nodes, noMembers no Members.
var (
	wrongLists = [][]int{{0}, {nodes + 1}, {-1}, {math.MinInt}, {math.MaxInt}, {1, 2, 0}, {1, 1}, {3, 1, 2, 3}, {1, 2, 3, 4, 5, 6, 7, 8, 9, 1}}
	noMembers  = append([][]int{nil, {}}, wrongLists...)
)

// text is a value with all its fields; an empty list is as good as nil.
func text(x any) string {
	s := fmt.Sprintf("%+v", x)
	if len(s) > 5000 {
		return fmt.Sprintf("%s..%s (%d bytes)", s[:2000], s[len(s)-2000:], len(s))
	}
	return s
}

// is holds what was told against what it should be.
func is(t *testing.T, what string, got, want any) {
	t.Helper()
	if fmt.Sprintf("%+v", got) != fmt.Sprintf("%+v", want) {
		t.Errorf("%s:\n    %s\nnot %s", what, text(got), text(want))
	}
}

// made is a Raft that New makes.
func made(t *testing.T, id int, h api.Hard, members []int, draws ...int) *Raft {
	t.Helper()
	r, e := New(id, h, members, draws...)
	if r == nil || e != api.OK {
		t.Fatalf("New(%d, %s, %v) tells %d", id, text(h), members, e)
	}
	return r
}

// nodesTo are the nodes from 1 to n.
func nodesTo(n int) []int {
	var l []int
	for i := range n {
		l = append(l, 1+i)
	}
	return l
}

// en is an entry with data, none one without, of the entry's term alone, and mem
// one with Members.
func en(index, term int, data string) api.Entry {
	return api.Entry{Index: index, Term: term, Kind: 1, Data: data}
}

func none(index, term int) api.Entry { return api.Entry{Index: index, Term: term} }

func mem(index, term int, members ...int) api.Entry {
	return api.Entry{Index: index, Term: term, Kind: 2, Members: members}
}

// row are entries with data from an index on, one for each term.
func row(first int, terms ...int) []api.Entry {
	var l []api.Entry
	for i, term := range terms {
		l = append(l, en(first+i, term, fmt.Sprint("d", first+i)))
	}
	return l
}

// same are n terms that are alike.
func same(term, n int) []int { return slices.Repeat([]int{term}, n) }

// These are messages of each Kind.
func voteMsg(from, to, term, index, logTerm int) api.Msg {
	return api.Msg{Kind: 1, From: from, To: to, Term: term, Index: index, LogTerm: logTerm}
}

func votedMsg(from, to, term int, yes bool) api.Msg {
	return api.Msg{Kind: 2, From: from, To: to, Term: term, Yes: yes}
}

func appendMsg(from, to, term, index, logTerm, commit int, l ...api.Entry) api.Msg {
	return api.Msg{Kind: 3, From: from, To: to, Term: term, Index: index, LogTerm: logTerm, Commit: commit, Entries: l}
}

func answerMsg(from, to, term int, yes bool, index int) api.Msg {
	return api.Msg{Kind: 4, From: from, To: to, Term: term, Yes: yes, Index: index}
}

func snapMsg(from, to, term int, s api.Snap) api.Msg {
	return api.Msg{Kind: 5, From: from, To: to, Term: term, Snap: s}
}

func msgs(l ...api.Msg) []api.Msg { return l }

// ticks are what several Ticks tell.
func ticks(r *Raft, n int) []api.Msg {
	var l []api.Msg
	for range n {
		l = append(l, r.Tick()...)
	}
	return l
}

// led is a node that the others have made leader, in the Term after that of h. It
// needs no draws, as it is the first to run out of time. What it sent is over.
func led(t *testing.T, id int, h api.Hard, members []int) *Raft {
	t.Helper()
	r := made(t, id, h, members)
	ticks(r, 10)
	for _, p := range r.View().Members {
		r.Step(votedMsg(p, id, h.Term+1, true))
	}
	if v := r.View(); v.Role != 3 || v.Leader != id || v.Hard.Term != h.Term+1 {
		t.Fatalf("node %d is no leader: %s", id, text(v))
	}
	return r
}

// stays holds that a call turns nothing and, if it tells messages, none.
func stays(t *testing.T, what string, r *Raft, call func() []api.Msg) {
	t.Helper()
	was := r.View()
	is(t, what+": messages", call(), msgs())
	is(t, what+": state", r.View(), was)
}

// ignores holds that a node ignores a message.
func ignores(t *testing.T, what string, r *Raft, m api.Msg) {
	t.Helper()
	stays(t, fmt.Sprint(what, ": ", text(m)), r, func() []api.Msg { return r.Step(m) })
}

// errOf holds that a call that fails tells nothing but an error.
func errOf(t *testing.T, what string, index int, out []api.Msg, e, want api.Errno) {
	t.Helper()
	if index != 0 || len(out) != 0 || e != want {
		t.Errorf("%s tells %d, %s, %d; not 0, none, %d", what, index, text(out), e, want)
	}
}
