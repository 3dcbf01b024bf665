package keep

import "parapet/api"

// Kinds of changes, as a file has them.
const (
	voteKind = 1 + iota
	appendKind
	cutKind
	snapKind
)

// change is what a call asks for, and what a file holds a row of.
type change interface {
	fits(s *state) bool // tells whether it may be asked for
	idle(s *state) bool // tells whether it changes nothing, so that no file holds it
	apply(s *state)
	write(w *writer)
}

// voteChange is a term and a vote.
type voteChange struct {
	term, vote int
}

func (c voteChange) fits(*state) bool { return c.term >= 0 && c.vote >= 0 }

func (c voteChange) idle(*state) bool { return false }

func (c voteChange) apply(s *state) { s.Term, s.Vote = c.term, c.vote }

func (c voteChange) write(w *writer) { w.numbers(voteKind, c.term, c.vote) }

// appendChange is entries behind the last one.
type appendChange []api.Entry

func (c appendChange) fits(s *state) bool {
	index := s.last()
	for _, e := range c {
		index++
		if index < 1 || e.Index != index || !storable(e) { // beyond the greatest int is no Index
			return false
		}
	}
	return true
}

func (c appendChange) idle(*state) bool { return len(c) == 0 }

func (c appendChange) apply(s *state) { s.extend(c) }

func (c appendChange) write(w *writer) {
	w.numbers(appendKind, c[0].Index, len(c))
	for _, e := range c {
		w.entry(e)
	}
}

// cutChange is the Index from which on entries go.
type cutChange int

func (c cutChange) fits(s *state) bool { return int(c) > s.Snap.Index }

func (c cutChange) idle(s *state) bool { return int(c) > s.last() }

func (c cutChange) apply(s *state) { s.only(0, int(c)-s.Snap.Index-1) }

func (c cutChange) write(w *writer) { w.numbers(cutKind, int(c)) }

// snapChange is a snapshot.
type snapChange api.Snap

func (c snapChange) fits(s *state) bool {
	return c.Index > s.Snap.Index && c.Term >= 0 &&
		len(c.Members) <= api.MaxNodes && len(c.Data) <= maxSnapData
}

func (c snapChange) idle(*state) bool { return false }

func (c snapChange) apply(s *state) {
	covered := c.Index - s.Snap.Index
	if covered <= len(s.Log) && s.Log[covered-1].Term == c.Term {
		s.only(covered, len(s.Log))
	} else {
		s.only(0, 0)
	}
	s.Snap = cloneSnap(api.Snap(c))
}

func (c snapChange) write(w *writer) {
	w.numbers(snapKind, c.Index, c.Term)
	w.list(c.Members)
	w.text(c.Data)
}

// storable tells whether an entry is within the limits, its Index aside.
func storable(e api.Entry) bool {
	return e.Term >= 0 && e.Kind >= 0 && len(e.Data) <= api.MaxData && len(e.Members) <= api.MaxNodes
}
