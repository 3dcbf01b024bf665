package keep

import (
	"math/bits"

	"parapet/api"
	"parapet/frame"
)

const (
	// A number is written seven bits a byte, the lowest ones first; all bytes
	// but the last have the bit goesOn.
	digitBits = 7
	goesOn    = 1 << digitBits

	// lastShift is where the 64th bit of a number stands: alone in its byte.
	lastShift = 63

	// maxSnapData is how many bytes the Data of a snapshot may have.
	maxSnapData = api.MaxFrame / 2
)

// writer is the bytes of a change.
type writer struct {
	bytes []byte
}

func (w *writer) numbers(l ...int) {
	for _, n := range l {
		x := uint64(n)
		for ; x >= goesOn; x >>= digitBits {
			w.bytes = append(w.bytes, byte(x|goesOn))
		}
		w.bytes = append(w.bytes, byte(x))
	}
}

func (w *writer) text(s string) {
	w.numbers(len(s))
	w.bytes = append(w.bytes, s...)
}

func (w *writer) list(l []int) {
	w.numbers(len(l))
	w.numbers(l...)
}

// entry leaves the Index out, which the place in the row tells.
func (w *writer) entry(e api.Entry) {
	w.numbers(e.Term, e.Kind)
	w.text(e.Data)
	w.list(e.Members)
}

// entriesSize is how many bytes a writer takes for entries.
func entriesSize(l []api.Entry) int {
	n := 0
	for _, e := range l {
		n += numbersSize(e.Term, e.Kind, len(e.Data), len(e.Members)) + len(e.Data) + numbersSize(e.Members...)
	}
	return n
}

// numbersSize is how many bytes a writer takes for numbers.
func numbersSize(l ...int) int {
	size := 0
	for _, n := range l {
		size += (bits.Len64(uint64(n)|1) + digitBits - 1) / digitBits
	}
	return size
}

// reader reads what a writer wrote, of which up to lost bytes may be missing at
// the end. Its kind turns from frame.Whole to frame.Torn when it runs into
// those, and to frame.Bad when it meets what no writer writes; from then on all
// that it reads is zero.
type reader struct {
	rest []byte
	lost int
	kind int
}

func (r *reader) stop(kind int) {
	if r.kind == frame.Whole {
		r.kind = kind
	}
	r.rest = nil
}

// take is the next n bytes, or none if it stops.
func (r *reader) take(n int) []byte {
	if n > len(r.rest)+r.lost {
		r.stop(frame.Bad)
	}
	if n > len(r.rest) {
		r.stop(frame.Torn)
	}
	if r.kind != frame.Whole {
		return nil
	}
	b := r.rest[:n]
	r.rest = r.rest[n:]
	return b
}

func (r *reader) number() int {
	x := uint64(0)
	for shift := 0; ; shift += digitBits {
		b := r.take(1)
		if len(b) == 0 {
			return 0
		}
		if shift == lastShift && b[0] > 1 || shift > 0 && b[0] == 0 {
			r.stop(frame.Bad)
			return 0
		}
		x |= uint64(b[0]&^goesOn) << shift
		if b[0] < goesOn {
			return int(x)
		}
	}
}

// size is a number from 0 to most.
func (r *reader) size(most int) int {
	n := r.number()
	if n < 0 || n > most {
		r.stop(frame.Bad)
		return 0
	}
	return n
}

func (r *reader) text(most int) string { return string(r.take(r.size(most))) }

func (r *reader) list() []int {
	var l []int
	for range r.size(api.MaxNodes) {
		l = append(l, r.number())
	}
	return l
}

func (r *reader) entry(index int) api.Entry {
	return api.Entry{Index: index, Term: r.number(), Kind: r.number(), Data: r.text(api.MaxData), Members: r.list()}
}

func (r *reader) entries() appendChange {
	var l appendChange
	first, n := r.number(), r.number()
	for i := 0; i < n && r.kind == frame.Whole; i++ { // n may be anything
		l = append(l, r.entry(first+i))
	}
	return l
}

func (r *reader) snap() snapChange {
	return snapChange{Index: r.number(), Term: r.number(), Members: r.list(), Data: r.text(maxSnapData)}
}

// parse is the change that b holds, if kind is frame.Whole.
func parse(b []byte, lost int) (c change, kind int) {
	r := reader{b, lost, frame.Whole}
	switch r.number() {
	case voteKind:
		c = voteChange{r.number(), r.number()}
	case appendKind:
		c = r.entries()
	case cutKind:
		c = cutChange(r.number())
	case snapKind:
		c = r.snap()
	default:
		r.stop(frame.Bad)
	}
	if len(r.rest) > 0 {
		r.stop(frame.Bad)
	}
	return c, r.kind
}
