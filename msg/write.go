package msg

import "parapet/api"

// buffer is the bytes that are written so far.
type buffer struct {
	bytes []byte
}

// number writes n in size bytes, the most significant one first.
func (b *buffer) number(size, n int) {
	for i := size - 1; i >= 0; i-- {
		b.bytes = append(b.bytes, byte(n>>(8*i)))
	}
}

func (b *buffer) ints(l ...int) {
	for _, n := range l {
		b.number(intSize, n)
	}
}

func (b *buffer) yes(yes bool) {
	n := 0
	if yes {
		n = 1
	}
	b.number(byteSize, n)
}

func (b *buffer) text(s string) {
	b.number(lengthSize, len(s))
	b.bytes = append(b.bytes, s...)
}

func (b *buffer) list(l []int) {
	b.number(byteSize, len(l))
	b.ints(l...)
}

// writer writes messages that are encodable: what others have would be cut
// short.
type writer struct {
	buffer
}

func (w *writer) message(m api.Msg) {
	w.number(byteSize, m.Kind)
	w.ints(m.From, m.To, m.Term)
	switch m.Kind {
	case api.MsgVote:
		w.ints(m.Index, m.LogTerm)
	case api.MsgVoted:
		w.yes(m.Yes)
	case api.MsgAppend:
		w.ints(m.Index, m.LogTerm, m.Commit)
		w.entries(m.Entries)
	case api.MsgAnswer:
		w.yes(m.Yes)
		w.ints(m.Index)
	case api.MsgSnap:
		w.snap(m.Snap)
	}
}

func (w *writer) entries(l []api.Entry) {
	w.number(byteSize, len(l))
	for _, e := range l {
		w.ints(e.Index, e.Term, e.Kind)
		w.text(e.Data)
		w.list(e.Members)
	}
}

func (w *writer) snap(s api.Snap) {
	w.ints(s.Index, s.Term)
	w.list(s.Members)
	w.text(s.Data)
}
