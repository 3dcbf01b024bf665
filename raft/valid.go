package raft

import (
	"math"

	"parapet/api"
)

func isNode(n int) bool { return n >= 1 && n <= api.MaxNodes }

// areNodes tells whether a list is of nodes, none of them twice.
func areNodes(l []int) bool {
	var seen [api.MaxNodes + 1]bool
	for _, n := range l {
		if !isNode(n) || seen[n] {
			return false
		}
		seen[n] = true
	}
	return true
}

func areMembers(l []int) bool { return len(l) > 0 && areNodes(l) }

// isHard tells whether a Hard is valid.
func isHard(h api.Hard) bool {
	s := h.Snap
	return h.Term >= 0 && h.Vote >= 0 && s.Index >= 0 && s.Term >= 0 && s.Term <= h.Term &&
		(s.Index == 0 || areMembers(s.Members)) && isRow(h.Log, s.Index, s.Term, h.Term)
}

// isRow tells whether entries can follow an index in a log, with Terms that begin
// no lower than least, do not decrease, and go up to most.
func isRow(l []api.Entry, index, least, most int) bool {
	for _, e := range l {
		if index == math.MaxInt || e.Index != index+1 || e.Term < least || e.Term > most || !isEntry(e) {
			return false
		}
		index, least = e.Index, e.Term
	}
	return true
}

// isEntry tells whether an entry's Kind is one, and its Members, if it changes
// them, are some.
func isEntry(e api.Entry) bool {
	if e.Kind == api.EntryMembers {
		return areMembers(e.Members)
	}
	return e.Kind == api.EntryNone || e.Kind == api.EntryData
}

// isSnap tells whether a snapshot can be in a message of that term.
func isSnap(s api.Snap, term int) bool {
	return s.Index >= 1 && s.Term >= 0 && s.Term <= term && areMembers(s.Members)
}

// isFor tells whether a message is from another node to this one.
func (r *Raft) isFor(m api.Msg) bool {
	return m.To == r.id && isNode(m.From) && m.From != r.id &&
		m.Kind >= api.MsgVote && m.Kind <= api.MsgSnap && m.Term >= 0
}
