package msg

import (
	"bytes"
	"encoding/binary"
	"errors"
	"fmt"
	"math"
	"math/rand"
	"reflect"
	"slices"
	"strings"
	"testing"

	"parapet/api"
)

// In these tests the chapter's limits are written as numbers.
const (
	nodes     = 9
	batch     = 8
	entryData = 4000
	snapData  = 65536
)

// These tell where the ints of every message stand.
const (
	atFrom = 1
	atTo   = 9
	atTerm = 17
	atRest = 25
)

// raw is an encoding as the chapter describes it, made by other means than the
// program's; no limit holds here.
type raw []byte

func (r raw) int(l ...int) raw {
	for _, n := range l {
		r = binary.BigEndian.AppendUint64(r, uint64(n))
	}
	return r
}

func (r raw) byte(l ...byte) raw { return append(r, l...) }

func (r raw) text(s string) raw {
	return append(binary.BigEndian.AppendUint32(r, uint32(len(s))), s...)
}

func (r raw) list(l []int) raw { return r.byte(byte(len(l))).int(l...) }

func (r raw) entry(e api.Entry) raw {
	return r.int(e.Index, e.Term, e.Kind).text(e.Data).list(e.Members)
}

func (r raw) yes(yes bool) raw {
	if yes {
		return r.byte(1)
	}
	return r.byte(0)
}

// start is what every message begins with, of that Kind and from 1 to 2.
func start(kind byte) raw { return raw{kind}.int(1, 2, 3) }

func encoding(m api.Msg) raw {
	r := raw{byte(m.Kind)}.int(m.From, m.To, m.Term)
	switch m.Kind {
	case 1:
		return r.int(m.Index, m.LogTerm)
	case 2:
		return r.yes(m.Yes)
	case 3:
		r = r.int(m.Index, m.LogTerm, m.Commit).byte(byte(len(m.Entries)))
		for _, e := range m.Entries {
			r = r.entry(e)
		}
		return r
	case 4:
		return r.yes(m.Yes).int(m.Index)
	}
	return r.int(m.Snap.Index, m.Snap.Term).list(m.Snap.Members).text(m.Snap.Data)
}

// isEncoding tells whether there is a message whose encoding is b, by other
// means than the program's.
func isEncoding(b []byte) bool {
	c := &checker{bytes.NewBuffer(b), true}
	kind := c.byte(1, 5)
	c.ints(1, nodes, 2)
	c.ints(0, math.MaxInt, 1)
	switch kind {
	case 1:
		c.ints(0, math.MaxInt, 2)
	case 2:
		c.byte(0, 1)
	case 3:
		c.ints(0, math.MaxInt, 3)
		for range c.byte(0, batch) {
			c.ints(0, math.MaxInt, 3)
			c.text(entryData)
			c.ints(0, math.MaxInt, c.byte(0, nodes))
		}
	case 4:
		c.byte(0, 1)
		c.ints(0, math.MaxInt, 1)
	case 5:
		c.ints(0, math.MaxInt, 2)
		c.ints(0, math.MaxInt, c.byte(0, nodes))
		c.text(snapData)
	}
	return c.ok && c.Len() == 0
}

// checker goes through bytes; it isn't ok any more when they run out, or leave a
// range.
type checker struct {
	*bytes.Buffer
	ok bool
}

func (c *checker) next(n int) []byte {
	b := c.Next(n)
	c.ok = c.ok && len(b) == n
	return append(make([]byte, 8-min(8, n)), b...)
}

func (c *checker) byte(least, most int) int {
	b := c.next(1)
	n := int(b[len(b)-1])
	c.ok = c.ok && n >= least && n <= most
	return n
}

func (c *checker) ints(least, most uint64, n int) {
	for range n {
		b := c.next(8)
		c.ok = c.ok && len(b) == 8 && binary.BigEndian.Uint64(b) >= least && binary.BigEndian.Uint64(b) <= most
	}
}

func (c *checker) text(most uint64) {
	b := c.next(4)
	if len(b) != 8 || binary.BigEndian.Uint64(b) > most {
		c.ok = false
		return
	}
	c.next(int(binary.BigEndian.Uint64(b)))
}

// ints are a row of n numbers from first on.
func ints(first, n int) []int {
	var l []int
	for i := range n {
		l = append(l, first+i)
	}
	return l
}

// allBytes is a text of each byte once.
func allBytes() string {
	b := make([]byte, 256)
	for i := range b {
		b[i] = byte(i)
	}
	return string(b)
}

// plain is a message of each Kind, 1 to 5, with all fields that it names.
func plain() []api.Msg {
	return []api.Msg{
		{Kind: 1, From: 1, To: 2, Term: 3, Index: 4, LogTerm: 5},
		{Kind: 2, From: 3, To: 4, Term: 5, Yes: true},
		{Kind: 3, From: 5, To: 6, Term: 7, Index: 8, LogTerm: 6, Commit: 4, Entries: []api.Entry{
			{Index: 9, Term: 7, Kind: 1, Data: "ab", Members: []int{1, 2}},
			{Index: 10, Term: 7, Kind: 2, Data: "c", Members: []int{3}},
		}},
		{Kind: 4, From: 7, To: 8, Term: 9, Yes: true, Index: 10},
		{Kind: 5, From: 9, To: 1, Term: 2, Snap: api.Snap{Index: 3, Term: 1, Members: []int{4, 5, 6}, Data: "def"}},
	}
}

// withEntries is a message with entries, withSnap one with a snapshot.
func withEntries(l ...api.Entry) api.Msg {
	return api.Msg{Kind: 3, From: 1, To: 2, Term: 3, Entries: l}
}

func withSnap(s api.Snap) api.Msg { return api.Msg{Kind: 5, From: 1, To: 2, Term: 3, Snap: s} }

// bare is a message of a Kind with no more than it must have.
func bare(kind int) api.Msg { return api.Msg{Kind: kind, From: 1, To: 1} }

// good are messages that have an encoding, of all shapes.
func good() []api.Msg {
	long := api.Entry{Index: math.MaxInt, Term: 1 << 60, Kind: 1 << 40, Data: strings.Repeat("x", entryData), Members: ints(1, nodes)}
	l := plain()
	for kind := 1; kind <= 5; kind++ {
		l = append(l, bare(kind))
		far := bare(kind)
		far.From, far.To, far.Term = nodes, nodes, math.MaxInt
		l = append(l, far)
	}
	return append(l,
		api.Msg{Kind: 1, From: 1, To: 9, Index: math.MaxInt, LogTerm: math.MaxInt},
		api.Msg{Kind: 1, From: 9, To: 1, Term: 1 << 60, LogTerm: 1},
		api.Msg{Kind: 4, From: 2, To: 3, Index: math.MaxInt},
		api.Msg{Kind: 4, From: 2, To: 3, Yes: true},
		api.Msg{Kind: 3, From: 2, To: 3, Index: 1, Commit: math.MaxInt},
		withEntries(api.Entry{}),
		withEntries(make([]api.Entry, batch)...),
		withEntries(api.Entry{Index: 7}, api.Entry{Kind: 9, Members: []int{0, math.MaxInt, 0, 10}}, api.Entry{Data: allBytes()}),
		withEntries(long),
		withEntries(long, api.Entry{}, long, long, long, long, long, long),
		withSnap(api.Snap{Index: 1, Term: 1, Data: allBytes()}),
		withSnap(api.Snap{Index: math.MaxInt, Term: math.MaxInt, Members: ints(100, nodes)}),
		withSnap(api.Snap{Members: ints(0, nodes), Data: strings.Repeat("y", snapData)}),
	)
}

// same tells whether two messages are alike; an empty list is as good as nil.
func same(a, b api.Msg) bool { return fmt.Sprintf("%#v", neat(a)) == fmt.Sprintf("%#v", neat(b)) }

// neat is a message with memory of its own, in which empty lists are nil.
func neat(m api.Msg) api.Msg {
	m.Snap.Members = append([]int(nil), m.Snap.Members...)
	m.Entries = append([]api.Entry(nil), m.Entries...)
	for i := range m.Entries {
		m.Entries[i].Members = append([]int(nil), m.Entries[i].Members...)
	}
	return m
}

// show is a message as a short text.
func show(m api.Msg) string {
	s := fmt.Sprintf("{%d %d>%d t%d i%d l%d c%d %v [", m.Kind, m.From, m.To, m.Term, m.Index, m.LogTerm, m.Commit, m.Yes)
	for _, e := range m.Entries {
		s += fmt.Sprintf(" %d.%d.%d %.9q(%d)%v", e.Index, e.Term, e.Kind, e.Data, len(e.Data), e.Members)
	}
	return s + fmt.Sprintf("] %d.%d%v%.9q(%d)}", m.Snap.Index, m.Snap.Term, m.Snap.Members, m.Snap.Data, len(m.Snap.Data))
}

// encoded is the encoding of what has one.
func encoded(t *testing.T, m api.Msg) []byte {
	t.Helper()
	b, e := Encode(m)
	if e != api.OK {
		t.Fatalf("Encode(%s) tells %d", show(m), e)
	}
	return b
}

// isEncoded holds Encode and Decode against the encoding that m should have.
func isEncoded(t *testing.T, m api.Msg, want []byte) {
	t.Helper()
	if b, e := Encode(m); e != api.OK || !bytes.Equal(b, want) {
		t.Errorf("Encode(%s) = %d, %d bytes, % x..; not %d bytes, % x..",
			show(m), e, len(b), b[:min(len(b), 99)], len(want), want[:min(len(want), 99)])
	}
	if x, e := Decode(want); e != api.OK || !same(x, m) {
		t.Errorf("Decode = %s, %d; not %s", show(x), e, show(m))
	}
}

// refuses holds that m has no encoding.
func refuses(t *testing.T, m api.Msg) {
	t.Helper()
	if b, e := Encode(m); b != nil || e != api.ErrArg {
		t.Errorf("Encode(%s) = %d bytes, %d", show(m), len(b), e)
	}
}

// isBad holds that b is no encoding, and that nothing stands beside ErrBad.
func isBad(t *testing.T, what string, b []byte) {
	t.Helper()
	if m, e := Decode(b); e != api.ErrBad || !reflect.DeepEqual(m, api.Msg{}) {
		t.Errorf("%s: Decode of %d bytes, % x.. = %s, %d", what, len(b), b[:min(len(b), 99)], show(m), e)
	}
}

// isEither holds Decode of b against whether b is an encoding, and against what
// Encode writes then.
func isEither(t *testing.T, what string, b []byte) {
	t.Helper()
	if !isEncoding(b) {
		isBad(t, what, b)
		return
	}
	m, e := Decode(b)
	if e != api.OK {
		t.Errorf("%s: Decode of % x.. tells %d", what, b[:min(len(b), 99)], e)
		return
	}
	if x, e := Encode(m); e != api.OK || !bytes.Equal(x, b) {
		t.Errorf("%s: Encode of Decode of % x.. = % x.., %d", what, b[:min(len(b), 99)], x[:min(len(x), 99)], e)
	}
}

// P7.1: the chapter's examples.
func TestExamples(t *testing.T) {
	isEncoded(t, api.Msg{Kind: 2, From: 1, To: 2, Term: 3, Yes: true}, []byte{
		2,
		0, 0, 0, 0, 0, 0, 0, 1,
		0, 0, 0, 0, 0, 0, 0, 2,
		0, 0, 0, 0, 0, 0, 0, 3,
		1,
	})
	refuses(t, api.Msg{})
	refuses(t, api.Msg{Kind: api.MsgVote, From: 1, To: 2, Term: 3, Index: 4, LogTerm: 2, Commit: 1})
	b := encoded(t, plain()[0])
	isBad(t, "without its last byte", b[:len(b)-1])
	isBad(t, "with a byte 0 after it", append(b, 0))
}

// P7.1, P7.2: a message of each Kind, byte by byte.
func TestKinds(t *testing.T) {
	for i, want := range []string{
		"\x01" + "\x00\x00\x00\x00\x00\x00\x00\x01" + "\x00\x00\x00\x00\x00\x00\x00\x02" + "\x00\x00\x00\x00\x00\x00\x00\x03" +
			"\x00\x00\x00\x00\x00\x00\x00\x04" + "\x00\x00\x00\x00\x00\x00\x00\x05",
		"\x02" + "\x00\x00\x00\x00\x00\x00\x00\x03" + "\x00\x00\x00\x00\x00\x00\x00\x04" + "\x00\x00\x00\x00\x00\x00\x00\x05" +
			"\x01",
		"\x03" + "\x00\x00\x00\x00\x00\x00\x00\x05" + "\x00\x00\x00\x00\x00\x00\x00\x06" + "\x00\x00\x00\x00\x00\x00\x00\x07" +
			"\x00\x00\x00\x00\x00\x00\x00\x08" + "\x00\x00\x00\x00\x00\x00\x00\x06" + "\x00\x00\x00\x00\x00\x00\x00\x04" +
			"\x02" +
			"\x00\x00\x00\x00\x00\x00\x00\x09" + "\x00\x00\x00\x00\x00\x00\x00\x07" + "\x00\x00\x00\x00\x00\x00\x00\x01" +
			"\x00\x00\x00\x02ab" + "\x02" + "\x00\x00\x00\x00\x00\x00\x00\x01" + "\x00\x00\x00\x00\x00\x00\x00\x02" +
			"\x00\x00\x00\x00\x00\x00\x00\x0a" + "\x00\x00\x00\x00\x00\x00\x00\x07" + "\x00\x00\x00\x00\x00\x00\x00\x02" +
			"\x00\x00\x00\x01c" + "\x01" + "\x00\x00\x00\x00\x00\x00\x00\x03",
		"\x04" + "\x00\x00\x00\x00\x00\x00\x00\x07" + "\x00\x00\x00\x00\x00\x00\x00\x08" + "\x00\x00\x00\x00\x00\x00\x00\x09" +
			"\x01" + "\x00\x00\x00\x00\x00\x00\x00\x0a",
		"\x05" + "\x00\x00\x00\x00\x00\x00\x00\x09" + "\x00\x00\x00\x00\x00\x00\x00\x01" + "\x00\x00\x00\x00\x00\x00\x00\x02" +
			"\x00\x00\x00\x00\x00\x00\x00\x03" + "\x00\x00\x00\x00\x00\x00\x00\x01" +
			"\x03" + "\x00\x00\x00\x00\x00\x00\x00\x04" + "\x00\x00\x00\x00\x00\x00\x00\x05" + "\x00\x00\x00\x00\x00\x00\x00\x06" +
			"\x00\x00\x00\x03def",
	} {
		isEncoded(t, plain()[i], []byte(want))
	}
}

// P7.1: messages of all shapes.
func TestEncode(t *testing.T) {
	for _, m := range good() {
		isEncoded(t, m, encoding(m))
	}
}

// P7.1: a No is written, too.
func TestEncodeNo(t *testing.T) {
	isEncoded(t, api.Msg{Kind: 2, From: 1, To: 2, Term: 3}, start(2).byte(0))
	isEncoded(t, api.Msg{Kind: 4, From: 1, To: 2, Term: 3, Index: 1}, start(4).byte(0).int(1))
}

// P7.1: Kinds that are none, those too whose lowest byte is one.
func TestEncodeKind(t *testing.T) {
	for _, kind := range []int{0, 6, 7, -1, -5, 255, 256, 257, 261, 1<<32 + 1, 1<<56 + 3, 1 << 60, math.MaxInt, math.MinInt, math.MinInt + 1} {
		refuses(t, bare(kind))
	}
	for kind := 1; kind <= 5; kind++ {
		isEncoded(t, bare(kind), encoding(bare(kind)))
	}
}

// fields are the ints of a message and its snapshot.
var fields = []struct {
	name  string
	kinds string // those that list it
	at    func(m *api.Msg) *int
}{
	{"From", "12345", func(m *api.Msg) *int { return &m.From }},
	{"To", "12345", func(m *api.Msg) *int { return &m.To }},
	{"Term", "12345", func(m *api.Msg) *int { return &m.Term }},
	{"Index", "134", func(m *api.Msg) *int { return &m.Index }},
	{"LogTerm", "13", func(m *api.Msg) *int { return &m.LogTerm }},
	{"Commit", "3", func(m *api.Msg) *int { return &m.Commit }},
	{"Snap.Index", "5", func(m *api.Msg) *int { return &m.Snap.Index }},
	{"Snap.Term", "5", func(m *api.Msg) *int { return &m.Snap.Term }},
}

// P7.1: each int at its edges, in each Kind.
func TestEncodeInts(t *testing.T) {
	for _, m := range plain() {
		for _, f := range fields {
			listed := strings.ContainsRune(f.kinds, rune('0'+m.Kind))
			isNode := f.name == "From" || f.name == "To"
			for _, n := range []int{0, 1, 2, nodes, nodes + 1, 255, 256, 257, 1<<32 + 1, 1 << 60, math.MaxInt, -1, -2, math.MinInt, math.MinInt + 1} {
				x := neat(m)
				*f.at(&x) = n
				switch {
				case !listed && n != 0, n < 0, isNode && (n < 1 || n > nodes):
					refuses(t, x)
				default:
					isEncoded(t, x, encoding(x))
				}
			}
		}
	}
}

// P7.1: each int of each entry, and each Member, at its edges.
func TestEncodeEntryInts(t *testing.T) {
	for i := range batch {
		for k := range 3 + nodes {
			for _, n := range []int{0, 1, nodes, nodes + 1, 1 << 60, math.MaxInt, -1, math.MinInt} {
				l := make([]api.Entry, batch)
				l[i].Members = make([]int, nodes)
				*append([]*int{&l[i].Index, &l[i].Term, &l[i].Kind}, pointers(l[i].Members)...)[k] = n
				if n < 0 {
					refuses(t, withEntries(l...))
				} else {
					isEncoded(t, withEntries(l...), encoding(withEntries(l...)))
				}
			}
		}
	}
}

// P7.1: each Member of a snapshot at its edges.
func TestEncodeSnapMembers(t *testing.T) {
	for k := range nodes {
		for _, n := range []int{0, 1, nodes, nodes + 1, 1 << 60, math.MaxInt, -1, math.MinInt} {
			m := withSnap(api.Snap{Members: make([]int, nodes)})
			m.Snap.Members[k] = n
			if n < 0 {
				refuses(t, m)
			} else {
				isEncoded(t, m, encoding(m))
			}
		}
	}
}

// pointers are those to the elements of l.
func pointers(l []int) []*int {
	var p []*int
	for i := range l {
		p = append(p, &l[i])
	}
	return p
}

// P7.1: numbers of entries and of Members.
func TestEncodeNumbers(t *testing.T) {
	for n := range 2 * batch {
		m := withEntries(make([]api.Entry, n)...)
		if n > batch {
			refuses(t, m)
		} else {
			isEncoded(t, m, encoding(m))
		}
	}
	for _, n := range []int{255, 256, 257, 264} {
		refuses(t, withEntries(make([]api.Entry, n)...))
	}
	for _, n := range []int{0, 1, 2, nodes - 1, nodes, nodes + 1, 255, 256, 257, 265} {
		for _, m := range []api.Msg{
			withSnap(api.Snap{Members: ints(1, n)}),
			withEntries(api.Entry{Members: ints(1, n)}),
			withEntries(api.Entry{}, api.Entry{Members: ints(1, n)}, api.Entry{}),
		} {
			if n > nodes {
				refuses(t, m)
			} else {
				isEncoded(t, m, encoding(m))
			}
		}
	}
}

// P7.1: lengths of Data.
func TestEncodeData(t *testing.T) {
	for _, n := range []int{0, 1, 255, 256, 257, entryData - 1, entryData, entryData + 1, snapData, 1 << 20} {
		for _, m := range []api.Msg{
			withEntries(api.Entry{Data: strings.Repeat("a", n)}),
			withEntries(api.Entry{}, api.Entry{}, api.Entry{Data: strings.Repeat("a", n), Members: ints(1, 2)}),
		} {
			if n > entryData {
				refuses(t, m)
			} else {
				isEncoded(t, m, encoding(m))
			}
		}
	}
	for _, n := range []int{0, 1, 255, 256, entryData + 1, snapData - 1, snapData, snapData + 1, 1 << 17, 1 << 20} {
		m := withSnap(api.Snap{Data: strings.Repeat("a", n)})
		if n > snapData {
			refuses(t, m)
		} else {
			isEncoded(t, m, encoding(m))
		}
	}
}

// P7.1: Data and Members of any bytes and numbers, in no order and twice.
func TestEncodeAnyData(t *testing.T) {
	for i := range 256 {
		data := string([]byte{byte(i), 0, byte(i)})
		e := api.Entry{Index: i, Term: i, Kind: i, Data: data, Members: []int{i, 0, i}}
		s := api.Snap{Index: i, Term: i, Members: []int{i, 0, i}, Data: data}
		isEncoded(t, withEntries(e, e), encoding(withEntries(e, e)))
		isEncoded(t, withSnap(s), encoding(withSnap(s)))
	}
}

// P7.1: each field that is not listed, one at a time, not zero.
func TestEncodeUnlisted(t *testing.T) {
	for _, u := range []struct {
		name  string
		kinds string // those that list it
		set   func(m *api.Msg)
	}{
		{"Index", "134", func(m *api.Msg) { m.Index = 1 }},
		{"LogTerm", "13", func(m *api.Msg) { m.LogTerm = 1 }},
		{"Commit", "3", func(m *api.Msg) { m.Commit = 1 }},
		{"Yes", "24", func(m *api.Msg) { m.Yes = true }},
		{"Entries", "3", func(m *api.Msg) { m.Entries = []api.Entry{{}} }},
		{"Entries", "3", func(m *api.Msg) { m.Entries = []api.Entry{{Index: 1, Term: 1, Kind: 1, Data: "a"}} }},
		{"Snap.Index", "5", func(m *api.Msg) { m.Snap.Index = 1 }},
		{"Snap.Term", "5", func(m *api.Msg) { m.Snap.Term = 1 }},
		{"Snap.Members", "5", func(m *api.Msg) { m.Snap.Members = []int{0} }},
		{"Snap.Members", "5", func(m *api.Msg) { m.Snap.Members = []int{1} }},
		{"Snap.Data", "5", func(m *api.Msg) { m.Snap.Data = "a" }},
		{"Snap.Data", "5", func(m *api.Msg) { m.Snap.Data = "\x00" }},
	} {
		for kind := 1; kind <= 5; kind++ {
			for _, m := range []api.Msg{bare(kind), plain()[kind-1]} {
				u.set(&m)
				if strings.ContainsRune(u.kinds, rune('0'+kind)) {
					isEncoded(t, m, encoding(m))
				} else {
					refuses(t, m)
				}
			}
		}
	}
}

// P7.1: an empty list is as good as nil, listed or not.
func TestEncodeEmptyLists(t *testing.T) {
	for _, m := range plain() {
		want := encoding(m)
		if m.Kind != 3 {
			m.Entries = []api.Entry{}
		}
		if m.Kind != 5 {
			m.Snap.Members = []int{}
		}
		isEncoded(t, m, want)
	}
	isEncoded(t, withEntries([]api.Entry{}...), start(3).int(0, 0, 0).byte(0))
	isEncoded(t, withEntries(api.Entry{Members: []int{}}), start(3).int(0, 0, 0).byte(1).int(0, 0, 0).text("").byte(0))
	isEncoded(t, withSnap(api.Snap{Members: []int{}}), start(5).int(0, 0).byte(0).text(""))
}

// P7.1: one wrong thing among right ones is enough, and so are several.
func TestEncodeRefuses(t *testing.T) {
	all := plain()[2]
	all.Yes, all.Snap = true, plain()[4].Snap
	for kind := range 7 {
		all.Kind = kind
		refuses(t, all)
	}
	refuses(t, api.Msg{Kind: -1, From: -1, To: -1, Term: -1, Index: -1, LogTerm: -1, Commit: -1, Yes: true,
		Entries: []api.Entry{{Index: -1}}, Snap: api.Snap{Index: -1}})
	refuses(t, api.Msg{Kind: 1})
	refuses(t, api.Msg{Kind: 1, From: 1})
	refuses(t, api.Msg{Kind: 1, To: 1})
	refuses(t, api.Msg{From: 1, To: 1})
}

// P7.2: no bytes, few bytes, and bytes of one kind.
func TestDecodeOfLittle(t *testing.T) {
	isBad(t, "nil", nil)
	isBad(t, "no bytes", []byte{})
	for i := range 256 {
		isBad(t, "one byte", []byte{byte(i)})
		for _, n := range []int{2, 8, 25, 26, 33, 34, 41, 46, 49, 50, 54, 100} {
			isEither(t, "bytes of one kind", bytes.Repeat([]byte{byte(i)}, n))
		}
	}
}

// P7.2: what is cut off, or goes on.
func TestDecodeCut(t *testing.T) {
	for _, m := range good() {
		b := encoded(t, m)
		for n := range b {
			if len(b) < 1000 || n < 200 || n%97 == 0 || n > len(b)-200 {
				isBad(t, "cut", b[:n:n])
				isBad(t, "cut, with the rest behind it", b[:n])
			}
		}
		for i := range 256 {
			isBad(t, "with a byte more", append(slices.Clone(b), byte(i)))
		}
		isBad(t, "twice", slices.Concat(b, b))
		isBad(t, "with a byte ahead", slices.Concat([]byte{0}, b))
		isBad(t, "without its first byte", b[1:])
	}
}

// P7.2: each byte, turned into each other one; those in the midst of a long
// text, and what they turn into, are picked.
func TestDecodeTurned(t *testing.T) {
	few := []byte{0, 1, 2, nodes, nodes + 1, 127, 128, 129, 255}
	for _, m := range good() {
		b := encoded(t, m)
		turns := []byte(allBytes())
		if len(b) > 1000 {
			turns = few
		}
		for i, was := range b {
			if i >= 150 && i%997 != 0 && i < len(b)-80 {
				continue
			}
			for _, x := range turns {
				b[i] = x
				isEither(t, fmt.Sprintf("byte %d is %d", i, x), b)
			}
			b[i] = was
		}
	}
}

// P7.2: bytes taken out, and put in.
func TestDecodeShifted(t *testing.T) {
	for _, m := range plain() {
		b := encoded(t, m)
		for i := range b {
			isEither(t, fmt.Sprintf("without byte %d", i), slices.Concat(b[:i], b[i+1:]))
			for _, x := range []byte{0, 1, b[i], 255} {
				isEither(t, fmt.Sprintf("with a byte at %d", i), slices.Concat(b[:i], []byte{x}, b[i:]))
			}
		}
	}
}

// P7.2: the Kinds.
func TestDecodeKind(t *testing.T) {
	for kind := range 256 {
		for _, rest := range []raw{start(0)[1:], start(0).int(0, 0)[1:], start(0).byte(0)[1:], start(0).int(0, 0, 0).byte(0)[1:], start(0).byte(0).int(0)[1:], start(0).int(0, 0).byte(0).text("")[1:]} {
			b := append(raw{byte(kind)}, rest...)
			isEither(t, "a Kind", b)
			if kind < 1 || kind > 5 {
				isBad(t, "a Kind that is none", b)
			}
		}
	}
}

// P7.2: From and To.
func TestDecodeNodes(t *testing.T) {
	for _, m := range good() {
		for _, at := range []int{atFrom, atTo} {
			for _, n := range []int{0, 1, 2, nodes - 1, nodes, nodes + 1, 255, 256, 257, 1<<32 + 1, 1<<56 + 1, math.MaxInt, -1, math.MinInt, math.MinInt + 1} {
				b := encoded(t, m)
				copy(b[at:], raw{}.int(n))
				if n < 1 || n > nodes {
					isBad(t, "no node", b)
				} else {
					isEither(t, "a node", b)
				}
			}
		}
	}
}

// P7.2: each int at its edges; those with the highest bit are none.
func TestDecodeInts(t *testing.T) {
	head := start(0)[1:atTerm]
	for _, n := range []int{0, 1, 255, 256, 1<<31 - 1, 1 << 31, 1<<32 - 1, 1 << 32, 1 << 60, 1 << 62, math.MaxInt - 1, math.MaxInt,
		-1, -2, math.MinInt, math.MinInt + 1, math.MinInt + 1<<32, -1 << 32, -1 << 60} {
		for _, b := range []raw{
			slices.Concat(raw{1}, head).int(n, 0, 0),
			slices.Concat(raw{2}, head).int(n).byte(1),
			slices.Concat(raw{3}, head).int(n, 0, 0, 0).byte(0),
			slices.Concat(raw{4}, head).int(n).byte(1).int(0),
			slices.Concat(raw{5}, head).int(n, 0, 0).byte(0).text(""),
			start(1).int(n, 0), start(1).int(0, n),
			start(3).int(n, 0, 0).byte(0), start(3).int(0, n, 0).byte(0), start(3).int(0, 0, n).byte(0),
			start(3).int(0, 0, 0).byte(1).int(n, 0, 0).text("a").byte(0),
			start(3).int(0, 0, 0).byte(1).int(0, n, 0).text("a").byte(0),
			start(3).int(0, 0, 0).byte(1).int(0, 0, n).text("a").byte(0),
			start(3).int(0, 0, 0).byte(1).int(0, 0, 0).text("a").byte(3).int(1, 2, n),
			start(3).int(0, 0, 0).byte(2).int(0, 0, 0).text("a").byte(1).int(1).int(n, 0, 0).text("").byte(0),
			start(4).byte(0).int(n),
			start(5).int(n, 0).byte(0).text("a"), start(5).int(0, n).byte(0).text("a"),
			start(5).int(0, 0).byte(3).int(n, 2, 3).text("a"), start(5).int(0, 0).byte(3).int(1, 2, n).text("a"),
		} {
			if n < 0 {
				isBad(t, "an int with the highest bit", b)
			}
			isEither(t, "an int", b)
		}
	}
}

// P7.2: a Yes is 0 or 1.
func TestDecodeYes(t *testing.T) {
	for i := range 256 {
		for _, b := range []raw{start(2).byte(byte(i)), start(4).byte(byte(i)).int(5)} {
			if i > 1 {
				isBad(t, "a Yes that is none", b)
				continue
			}
			if m, e := Decode(b); e != api.OK || m.Yes != (i == 1) {
				t.Errorf("Decode(% x) = %s, %d", b, show(m), e)
			}
		}
	}
}

// P7.2: numbers of entries, as many as there are, one more and one less.
func TestDecodeEntries(t *testing.T) {
	for _, e := range []api.Entry{{}, {Index: 1, Term: 1, Kind: 1, Data: "abc", Members: ints(1, 2)}} {
		for n := range 256 {
			for there := max(0, n-1); there <= n+1; there++ {
				b := start(3).int(0, 0, 0).byte(byte(n))
				for range there {
					b = b.entry(e)
				}
				if n > batch || there != n {
					isBad(t, fmt.Sprintf("%d entries, said to be %d", there, n), b)
				} else {
					isEither(t, "entries", b)
				}
			}
		}
	}
}

// P7.2: numbers of Members, as many as there are, one more and one less.
func TestDecodeMembers(t *testing.T) {
	for n := range 256 {
		for there := max(0, n-1); there <= n+1; there++ {
			l := raw{byte(n)}.int(ints(1, there)...)
			for i, b := range []raw{
				append(start(3).int(0, 0, 0).byte(1).int(0, 0, 0).text("a"), l...),
				append(start(3).int(0, 0, 0).byte(2).entry(api.Entry{}).int(0, 0, 0).text("a"), l...),
				append(start(5).int(0, 0), l...).text("a"),
			} {
				if n > nodes || there != n && i < 2 {
					isBad(t, fmt.Sprintf("%d Members, said to be %d", there, n), b)
				} else {
					isEither(t, "Members", b)
				}
			}
		}
	}
}

// P7.2: lengths of Data: within the limit, above it, above what there is, and as
// great as four bytes can say.
func TestDecodeData(t *testing.T) {
	for _, size := range []uint32{0, 1, 2, 255, 256, entryData - 1, entryData, entryData + 1, snapData - 1, snapData, snapData + 1,
		1 << 17, 1 << 24, 1<<31 - 1, 1 << 31, 1<<31 + 1, 1<<32 - 2, 1<<32 - 1} {
		for _, there := range []int{0, 1, entryData, entryData + 1, snapData, snapData + 1, 1 << 17} {
			data := append(binary.BigEndian.AppendUint32(nil, size), strings.Repeat("a", there)...)
			entry := append(start(3).int(0, 0, 0).byte(1).int(0, 0, 0), data...).byte(0)
			snap := append(start(5).int(0, 0).byte(0), data...)
			what := fmt.Sprintf("%d bytes of Data, said to be %d", there, size)
			if size > entryData || int(size) != there {
				isBad(t, what+", in an entry", entry)
			} else {
				isEither(t, what+", in an entry", entry)
			}
			if size > snapData || int(size) != there {
				isBad(t, what+", in a snapshot", snap)
			} else {
				isEither(t, what+", in a snapshot", snap)
			}
		}
	}
}

// anyMsg is a message, mostly one that has an encoding.
func anyMsg(r *rand.Rand) api.Msg {
	number := func() int {
		switch r.Intn(40) {
		case 0:
			return -1 - r.Intn(3)
		case 1:
			return math.MaxInt - r.Intn(3)
		}
		return r.Intn(1 << r.Intn(30))
	}
	members := func() []int {
		var l []int
		for range r.Intn(nodes+2) * r.Intn(2) {
			l = append(l, number())
		}
		return l
	}
	data := func() string {
		b := make([]byte, r.Intn(1<<r.Intn(13)))
		r.Read(b)
		return string(b)
	}
	m := api.Msg{Kind: 1 + r.Intn(5), From: 1 + r.Intn(nodes), To: 1 + r.Intn(nodes), Term: number()}
	some := func(kinds string) bool { return strings.ContainsRune(kinds, rune('0'+m.Kind)) != (r.Intn(40) == 0) }
	if some("134") {
		m.Index = number()
	}
	if some("13") {
		m.LogTerm = number()
	}
	if some("3") {
		m.Commit = number()
	}
	if some("24") {
		m.Yes = r.Intn(2) == 0
	}
	if some("3") {
		for range r.Intn(batch + 2) {
			m.Entries = append(m.Entries, api.Entry{Index: number(), Term: number(), Kind: number(), Data: data(), Members: members()})
		}
	}
	if some("5") {
		m.Snap = api.Snap{Index: number(), Term: number(), Members: members(), Data: data()}
	}
	return m
}

// hasEncoding tells what P7.1 says, in its order.
func hasEncoding(m api.Msg) bool {
	list := func(l []int) error {
		if len(l) > nodes || len(l) > 0 && slices.Min(l) < 0 {
			return errors.New("Members")
		}
		return nil
	}
	l := []error{list(m.Snap.Members)}
	refuse := func(no bool, why string) {
		if no {
			l = append(l, errors.New(why))
		}
	}
	refuse(m.Kind < 1 || m.Kind > 5, "Kind")
	refuse(min(m.Term, m.Index, m.LogTerm, m.Commit, m.Snap.Index, m.Snap.Term) < 0, "negative")
	refuse(min(m.From, m.To) < 1 || max(m.From, m.To) > nodes, "node")
	refuse(len(m.Entries) > batch, "entries")
	for _, e := range m.Entries {
		refuse(min(e.Index, e.Term, e.Kind) < 0, "negative")
		refuse(len(e.Data) > entryData, "Data")
		l = append(l, list(e.Members))
	}
	refuse(len(m.Snap.Data) > snapData, "Data")
	refuse(m.Index != 0 && m.Kind != 1 && m.Kind != 3 && m.Kind != 4, "Index")
	refuse(m.LogTerm != 0 && m.Kind != 1 && m.Kind != 3, "LogTerm")
	refuse(m.Commit != 0 && m.Kind != 3, "Commit")
	refuse(m.Yes && m.Kind != 2 && m.Kind != 4, "Yes")
	refuse(len(m.Entries) != 0 && m.Kind != 3, "Entries")
	refuse(m.Kind != 5 && !reflect.DeepEqual(neat(m).Snap, api.Snap{}), "Snap")
	return errors.Join(l...) == nil
}

// P7.1, P7.3: messages of all kinds, right and wrong, as the chapter's words say.
func TestAnyMessages(t *testing.T) {
	r := rand.New(rand.NewSource(1))
	right := 0
	for range 20000 {
		m := anyMsg(r)
		if hasEncoding(m) {
			isEncoded(t, m, encoding(m))
			right++
		} else {
			refuses(t, m)
		}
	}
	if right < 5000 || right > 18000 {
		t.Errorf("of 20000 messages, %d are right", right)
	}
}

// P7.2, P7.3: bytes of all kinds.
func TestAnyBytes(t *testing.T) {
	r := rand.New(rand.NewSource(2))
	for range 20000 {
		m := anyMsg(r)
		if !hasEncoding(m) {
			continue
		}
		b := encoded(t, m)
		for range 1 + r.Intn(4) {
			if len(b) == 0 {
				break
			}
			i, n := r.Intn(len(b)), r.Intn(30)
			switch r.Intn(4) {
			case 0:
				b[i] = byte(r.Intn(256))
			case 1:
				b[i] ^= 1 << r.Intn(8)
			case 2:
				b = slices.Delete(b, i, min(i+n, len(b)))
			default:
				b = slices.Insert(b, i, make([]byte, n)...)
			}
		}
		isEither(t, "any bytes", b)
	}
}

// P7.3: each of the two undoes the other; what is empty is nil.
func TestBack(t *testing.T) {
	for _, m := range good() {
		b := encoded(t, m)
		x, e := Decode(b)
		if e != api.OK || !reflect.DeepEqual(x, neat(m)) {
			t.Errorf("Decode of Encode of %s = %s, %d", show(m), show(x), e)
		}
		if c := encoded(t, x); !bytes.Equal(c, b) {
			t.Errorf("Encode of Decode of the encoding of %s = % x..", show(m), c[:min(len(c), 99)])
		}
	}
}

// spare is l with room behind it, in which no zero stands.
func spare[T any](l []T, fill T) []T {
	s := append(slices.Clone(l), fill, fill, fill)
	return s[:len(l)]
}

// roomy is a message all of whose lists have room behind them.
func roomy(m api.Msg) api.Msg {
	m.Entries = slices.Clone(m.Entries)
	for i := range m.Entries {
		m.Entries[i].Members = spare(m.Entries[i].Members, 77)
	}
	m.Entries = spare(m.Entries, api.Entry{Index: 77, Members: []int{77}})
	m.Snap.Members = spare(m.Snap.Members, 77)
	return m
}

// whole is all that a message's lists hold, what stands behind them too.
func whole(m api.Msg) string {
	s := fmt.Sprint(m, m.Entries[:cap(m.Entries)], m.Snap.Members[:cap(m.Snap.Members)])
	for _, e := range m.Entries {
		s += fmt.Sprint(e.Members[:cap(e.Members)])
	}
	return s
}

// scribble writes over all lists of a message, and behind them.
func scribble(m api.Msg) {
	l := [][]int{m.Snap.Members}
	for _, e := range m.Entries {
		l = append(l, e.Members)
	}
	for _, x := range l {
		for i := range x[:cap(x)] {
			x[:cap(x)][i] = 1000 + i
		}
	}
	for i := range m.Entries[:cap(m.Entries)] {
		m.Entries[:cap(m.Entries)][i] = api.Entry{Index: 1000, Data: "z"}
	}
}

// P7.3: Encode lets alone what it is handed, and keeps none of it.
func TestEncodeArguments(t *testing.T) {
	wrong := api.Msg{Kind: 1, From: 1, To: 1, Entries: plain()[2].Entries, Snap: plain()[4].Snap}
	for _, m := range append(good(), wrong) {
		m = roomy(m)
		was := whole(m)
		b, _ := Encode(m)
		if whole(m) != was {
			t.Errorf("Encode turned %s into %s", was, whole(m))
		}
		before := slices.Clone(b)
		scribble(m)
		if !bytes.Equal(b, before) {
			t.Errorf("an encoding is % x.. when the message is written to", b[:min(len(b), 99)])
		}
	}
	for _, m := range good() {
		m = roomy(m)
		was := whole(m)
		b, c := encoded(t, m), encoded(t, m)
		for i := range b[:cap(b)] {
			b[:cap(b)][i] = 255
		}
		if whole(m) != was {
			t.Errorf("%s is %s when its encoding is written to", was, whole(m))
		}
		if !bytes.Equal(c, encoding(m)) || !bytes.Equal(encoded(t, m), c) {
			t.Errorf("an encoding of %s turns when another is written to", was)
		}
	}
}

// P7.3: Decode lets alone what it is handed, and keeps none of it.
func TestDecodeArguments(t *testing.T) {
	for _, m := range good() {
		want := encoded(t, m)
		for _, n := range []int{len(want), len(want) - 1, 26} {
			b := spare(want, 255)
			Decode(b[:min(n, len(b))])
			if !bytes.Equal(b, want) || !bytes.Equal(b[:len(b)+3][len(b):], []byte{255, 255, 255}) {
				t.Errorf("Decode turned the encoding of %s", show(m))
			}
		}
		b := spare(want, 255)
		x, _ := Decode(b)
		y, _ := Decode(b)
		for i := range b[:cap(b)] {
			b[:cap(b)][i] ^= 255
		}
		if !same(x, m) {
			t.Errorf("%s is %s when its bytes are written to", show(m), show(x))
		}
		copy(b, want)
		scribble(x)
		if !bytes.Equal(b, want) || !same(y, m) {
			t.Errorf("bytes or another message turn when %s is written to", show(m))
		}
	}
}

// P7.3: no two lists of a message share memory.
func TestDecodeLists(t *testing.T) {
	var l []api.Entry
	for i := range batch {
		l = append(l, api.Entry{Index: i, Data: "abc", Members: ints(10*i, 1+i)})
	}
	b := encoded(t, withEntries(l...))
	for i := range batch {
		m, e := Decode(b)
		if e != api.OK {
			t.Fatalf("Decode tells %d", e)
		}
		x := m.Entries[i].Members
		for k := range x[:cap(x)] {
			x[:cap(x)][k] = 1000
		}
		for k := range batch {
			if k != i && !slices.Equal(m.Entries[k].Members, l[k].Members) {
				t.Errorf("the Members of entry %d are %v when those of entry %d are written to", k, m.Entries[k].Members, i)
			}
		}
	}
}

// P7.2: what is refused leaves nothing behind for what comes next.
func TestDecodeAfterBad(t *testing.T) {
	want := withSnap(api.Snap{Index: 1, Term: 1, Members: ints(1, 3), Data: "abc"})
	b := encoded(t, want)
	for n := range b {
		Decode(b[:n])
		Encode(api.Msg{Kind: n, From: n})
		isEncoded(t, want, encoding(want))
	}
}
