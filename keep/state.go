package keep

import "parapet/api"

// state is what is kept, and how many bytes the log takes in a file: to count
// them at each call would take too long.
type state struct {
	api.Hard
	logSize int
}

// last is the Index of the last entry.
func (s *state) last() int { return s.Snap.Index + len(s.Log) }

// live is how many bytes a file needs at least, but for a few.
func (s *state) live() int { return s.logSize + len(s.Snap.Data) }

// extend appends copies of entries to the log.
func (s *state) extend(l []api.Entry) {
	s.Log = appendEntries(s.Log, l)
	s.logSize += entriesSize(l)
}

// only leaves of the log what stands from one place to another.
func (s *state) only(from, to int) {
	s.logSize -= entriesSize(s.Log[:from]) + entriesSize(s.Log[to:])
	s.Log = s.Log[from:to]
	if from == to {
		s.Log = nil
	}
}

// changes are the fewest that lead from the empty state to s.
func (s *state) changes() []change {
	l := []change{voteChange{s.Term, s.Vote}}
	if s.Snap.Index > 0 {
		l = append(l, snapChange(s.Snap))
	}
	if len(s.Log) > 0 {
		l = append(l, appendChange(s.Log))
	}
	return l
}

// cloneSnap is a snapshot with memory of its own.
func cloneSnap(s api.Snap) api.Snap {
	s.Members = clone(s.Members)
	return s
}

// appendEntries appends entries with memory of their own.
func appendEntries(to, l []api.Entry) []api.Entry {
	for _, e := range l {
		e.Members = clone(e.Members)
		to = append(to, e)
	}
	return to
}

// clone is nil for an empty list, as one that is read again is.
func clone(l []int) []int { return append([]int(nil), l...) }
