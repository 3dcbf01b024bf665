package msg

import (
	"math"

	"parapet/api"
)

// reader reads what a writer wrote. It is bad from when it meets what no writer
// writes, and all that it reads then is zero. Limits are not its care, as no
// number leads it beyond the bytes that there are.
type reader struct {
	rest []byte
	bad  bool
}

func (r *reader) stop() { r.rest, r.bad = nil, true }

// take is the next n bytes, or none if it stops.
func (r *reader) take(n int) []byte {
	if n > len(r.rest) {
		r.stop()
		return nil
	}
	b := r.rest[:n]
	r.rest = r.rest[n:]
	return b
}

func (r *reader) number(size int) int {
	x := uint64(0)
	for _, c := range r.take(size) {
		x = x<<8 | uint64(c)
	}
	if x > math.MaxInt {
		r.stop()
		return 0
	}
	return int(x)
}

func (r *reader) ints(to ...*int) {
	for _, n := range to {
		*n = r.number(intSize)
	}
}

func (r *reader) yes() bool {
	n := r.number(byteSize)
	if n > 1 {
		r.stop()
		return false
	}
	return n == 1
}

func (r *reader) text() string { return string(r.take(r.number(lengthSize))) }

func (r *reader) list() []int {
	var l []int
	for range r.number(byteSize) {
		l = append(l, r.number(intSize))
	}
	return l
}

func (r *reader) message() api.Msg {
	m := api.Msg{Kind: r.number(byteSize)}
	r.ints(&m.From, &m.To, &m.Term)
	switch m.Kind {
	case api.MsgVote:
		r.ints(&m.Index, &m.LogTerm)
	case api.MsgVoted:
		m.Yes = r.yes()
	case api.MsgAppend:
		r.ints(&m.Index, &m.LogTerm, &m.Commit)
		m.Entries = r.entries()
	case api.MsgAnswer:
		m.Yes = r.yes()
		r.ints(&m.Index)
	case api.MsgSnap:
		m.Snap = r.snap()
	}
	return m
}

func (r *reader) entries() []api.Entry {
	var l []api.Entry
	for range r.number(byteSize) {
		var e api.Entry
		r.ints(&e.Index, &e.Term, &e.Kind)
		e.Data = r.text()
		e.Members = r.list()
		l = append(l, e)
	}
	return l
}

func (r *reader) snap() api.Snap {
	var s api.Snap
	r.ints(&s.Index, &s.Term)
	s.Members = r.list()
	s.Data = r.text()
	return s
}
