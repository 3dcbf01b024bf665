package raft

import "parapet/api"

// state is what a node keeps over a crash, the members that it was made with,
// and its Members: to look for them at each call would take too long.
type state struct {
	api.Hard
	first   []int
	members []int
	since   int // the Index of the entry that members are of; 0: of none
}

// last is the Index of the last entry.
func (s *state) last() int { return s.Snap.Index + len(s.Log) }

// upTo is how many entries have at most that Index, which may be any number.
func (s *state) upTo(index int) int {
	if index <= s.Snap.Index {
		return 0
	}
	return min(index-s.Snap.Index, len(s.Log))
}

// has tells whether an index is the snapshot's or an entry's.
func (s *state) has(index int) bool { return index >= s.Snap.Index && index <= s.last() }

// term is 0 for an index that the node doesn't have.
func (s *state) term(index int) int {
	switch {
	case index == s.Snap.Index:
		return s.Snap.Term
	case s.has(index):
		return s.Log[s.upTo(index)-1].Term
	}
	return 0
}

// holds tells whether the node has an index with that term.
func (s *state) holds(index, term int) bool { return s.has(index) && s.term(index) == term }

// membersAt are the Members according to the entries up to an index, and the
// Index of the entry that says so, 0 if none does.
func (s *state) membersAt(index int) (members []int, since int) {
	for n := s.upTo(index); n > 0; n-- {
		if e := s.Log[n-1]; e.Kind == api.EntryMembers {
			return e.Members, e.Index
		}
	}
	if s.Snap.Index > 0 {
		return s.Snap.Members, 0
	}
	return s.first, 0
}

// findMembers finds the Members anew when entries are gone.
func (s *state) findMembers() { s.members, s.since = s.membersAt(s.last()) }

// extend appends copies of entries to the log.
func (s *state) extend(l ...api.Entry) {
	for _, e := range cloneEntries(l) {
		s.Log = append(s.Log, e)
		if e.Kind == api.EntryMembers {
			s.members, s.since = e.Members, e.Index
		}
	}
}

// truncate removes the entries from an index on.
func (s *state) truncate(index int) {
	s.Log = s.Log[:s.upTo(index-1)]
	if s.since >= index {
		s.findMembers()
	}
}

// missing are the entries of a row from the first one on that the log lacks.
func (s *state) missing(l []api.Entry) []api.Entry {
	for i, e := range l {
		if e.Index > s.Snap.Index && !s.holds(e.Index, e.Term) {
			return l[i:]
		}
	}
	return nil
}

// cover puts a snapshot in the place of the entries up to its Index. What stands
// behind that is of use only if it follows what the snapshot is made of.
func (s *state) cover(snap api.Snap) {
	var rest []api.Entry
	if s.holds(snap.Index, snap.Term) {
		rest = append(rest, s.Log[s.upTo(snap.Index):]...)
	}
	s.Snap, s.Log = cloneSnap(snap), rest
	s.findMembers()
}

func cloneHard(h api.Hard) api.Hard {
	h.Snap = cloneSnap(h.Snap)
	h.Log = cloneEntries(h.Log)
	return h
}

func cloneSnap(s api.Snap) api.Snap {
	s.Members = clone(s.Members)
	return s
}

// cloneEntries are entries with memory of their own.
func cloneEntries(l []api.Entry) []api.Entry {
	var to []api.Entry
	for _, e := range l {
		e.Members = clone(e.Members)
		to = append(to, e)
	}
	return to
}

func clone(l []int) []int { return append([]int(nil), l...) }
