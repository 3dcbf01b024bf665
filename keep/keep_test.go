package keep

import (
	"fmt"
	"math"
	"math/rand"
	"reflect"
	"slices"
	"strings"
	"testing"

	"parapet/api"
	"parapet/disk"
	"parapet/frame"
)

// made is an empty disk.
func made(t *testing.T, room int) *disk.Disk {
	t.Helper()
	d, e := disk.New(room)
	if e != api.OK {
		t.Fatalf("disk.New(%d) tells %d", room, e)
	}
	return d
}

// opened is what stands on d, which must be in order.
func opened(t *testing.T, d *disk.Disk, prefix string) *Keep {
	t.Helper()
	k, e := Open(d, prefix)
	if k == nil || e != api.OK {
		t.Fatalf("Open tells %d", e)
	}
	return k
}

// isErr holds an error against what it should be.
func isErr(t *testing.T, what string, got, want api.Errno) {
	t.Helper()
	if got != want {
		t.Errorf("%s tells %d, not %d", what, got, want)
	}
}

// show is a state as a short text.
func show(h api.Hard) string {
	s := fmt.Sprintf("%d.%d %d.%d%v%.9q:", h.Term, h.Vote, h.Snap.Index, h.Snap.Term, h.Snap.Members, h.Snap.Data)
	for i, e := range h.Log {
		if i == 20 {
			return s + fmt.Sprintf(" .. %d", len(h.Log))
		}
		s += fmt.Sprintf(" %d.%d.%d%.9q%v", e.Index, e.Term, e.Kind, e.Data, e.Members)
	}
	return s
}

// isHard holds a state against what it should be.
func isHard(t *testing.T, what string, got, want api.Hard) {
	t.Helper()
	if !same(got, want) {
		t.Errorf("%s: %s, not %s", what, show(got), show(want))
	}
}

// same tells whether two states are alike; no entries are as good as nil ones.
func same(a, b api.Hard) bool {
	if a.Term != b.Term || a.Vote != b.Vote || len(a.Log) != len(b.Log) || !sameSnap(a.Snap, b.Snap) {
		return false
	}
	for i, e := range a.Log {
		f := b.Log[i]
		if e.Index != f.Index || e.Term != f.Term || e.Kind != f.Kind || e.Data != f.Data || !slices.Equal(e.Members, f.Members) {
			return false
		}
	}
	return true
}

func sameSnap(a, b api.Snap) bool {
	return a.Index == b.Index && a.Term == b.Term && a.Data == b.Data && slices.Equal(a.Members, b.Members)
}

// files is all that stands on a disk.
func files(d *disk.Disk) map[string]string {
	m := map[string]string{}
	for _, name := range d.Names() {
		b, _ := d.Read(name)
		m[name] = string(b)
	}
	return m
}

// used is how many bytes that takes.
func used(d *disk.Disk) int {
	n := 0
	for _, s := range files(d) {
		n += len(s)
	}
	return n
}

// lay writes a file, synced, in the place of what there was.
func lay(t *testing.T, d *disk.Disk, name string, b []byte) {
	t.Helper()
	d.Remove(name)
	isErr(t, "disk.Append", d.Append(name, b), api.OK)
	isErr(t, "disk.Sync", d.Sync(name), api.OK)
}

// en is an entry.
func en(index, term int, data string, members ...int) api.Entry {
	return api.Entry{Index: index, Term: term, Kind: api.EntryData, Data: data, Members: members}
}

// row is n entries from first on.
func row(first, n, term int, data string) []api.Entry {
	var l []api.Entry
	for i := range n {
		l = append(l, en(first+i, term, data))
	}
	return l
}

// call is one of the calls that change a Keep, and what chapter 6 says that it
// does, in other words than the program's.
type call struct {
	name string
	on   func(k *Keep) api.Errno
	by   func(h api.Hard) (api.Hard, api.Errno)
}

func lastOf(h api.Hard) int {
	if len(h.Log) > 0 {
		return h.Log[len(h.Log)-1].Index
	}
	return h.Snap.Index
}

func voteCall(term, vote int) call {
	return call{
		fmt.Sprintf("Vote(%d, %d)", term, vote),
		func(k *Keep) api.Errno { return k.Vote(term, vote) },
		func(h api.Hard) (api.Hard, api.Errno) {
			if term < 0 || vote < 0 {
				return h, api.ErrArg
			}
			h.Term, h.Vote = term, vote
			return h, api.OK
		},
	}
}

func appendCall(l ...api.Entry) call {
	return call{
		fmt.Sprintf("Append(%d entries)", len(l)),
		func(k *Keep) api.Errno { return k.Append(l...) },
		func(h api.Hard) (api.Hard, api.Errno) {
			for i, e := range l {
				if e.Index != lastOf(h)+1+i || e.Term < 0 || e.Kind < 0 || len(e.Data) > 4000 || len(e.Members) > 9 {
					return h, api.ErrArg
				}
			}
			h.Log = slices.Concat(h.Log, l)
			return h, api.OK
		},
	}
}

func cutCall(index int) call {
	return call{
		fmt.Sprintf("Cut(%d)", index),
		func(k *Keep) api.Errno { return k.Cut(index) },
		func(h api.Hard) (api.Hard, api.Errno) {
			if index <= h.Snap.Index {
				return h, api.ErrArg
			}
			h.Log = slices.DeleteFunc(slices.Clone(h.Log), func(e api.Entry) bool { return e.Index >= index })
			return h, api.OK
		},
	}
}

func snapCall(s api.Snap) call {
	return call{
		fmt.Sprintf("Snap(%d.%d, %d bytes)", s.Index, s.Term, len(s.Data)),
		func(k *Keep) api.Errno { return k.Snap(s) },
		func(h api.Hard) (api.Hard, api.Errno) {
			if s.Index <= h.Snap.Index || s.Term < 0 || len(s.Members) > 9 || len(s.Data) > 1<<16 {
				return h, api.ErrArg
			}
			alike := slices.ContainsFunc(h.Log, func(e api.Entry) bool { return e.Index == s.Index && e.Term == s.Term })
			h.Log = slices.DeleteFunc(slices.Clone(h.Log), func(e api.Entry) bool { return !alike || e.Index <= s.Index })
			h.Snap = s
			return h, api.OK
		},
	}
}

// do makes calls on a Keep on d, and holds each against the chapter: what it
// tells, what Hard is, that it lasts at once, and that a refused one does
// nothing to the disk.
func do(t *testing.T, k *Keep, d *disk.Disk, prefix string, calls ...call) {
	t.Helper()
	for _, c := range calls {
		before, ops := files(d), d.Ops()
		want, e := c.by(k.Hard())
		isErr(t, c.name, c.on(k), e)
		isHard(t, "after "+c.name, k.Hard(), want)
		isHard(t, "after "+c.name+" and a crash", opened(t, d.Crash(), prefix).Hard(), want)
		isHard(t, "after "+c.name+" and Open", opened(t, d.Copy(), prefix).Hard(), want)
		if e == api.ErrArg && (ops != d.Ops() || !reflect.DeepEqual(before, files(d))) {
			t.Errorf("%s is refused and does something to the disk", c.name)
		}
	}
}

// calls are a history that meets all there is to a call: of one entry and of
// several, limits, snapshots within the log, at its end and beyond it.
func calls() []call {
	big := strings.Repeat("b", api.MaxData)
	nine := []int{1, 2, 3, 4, 5, 6, 7, 8, 9}
	return []call{
		voteCall(3, 1), appendCall(en(1, 1, "a")), appendCall(row(2, 3, 2, "bb")...), cutCall(3), cutCall(9),
		appendCall(), appendCall(en(3, 3, "", 1, 2), en(4, 3, big, nine...)), voteCall(0, 0), cutCall(4),
		snapCall(api.Snap{Index: 2, Term: 2, Members: nine, Data: "S"}), appendCall(row(4, 4, 4, "c")...),
		snapCall(api.Snap{Index: 5, Term: 3, Data: "other term"}), appendCall(row(6, 3, 5, "d")...),
		snapCall(api.Snap{Index: 8, Term: 5}), appendCall(row(9, 40, 6, "e")...), cutCall(20),
		snapCall(api.Snap{Index: 19, Term: 7}), voteCall(math.MaxInt, math.MaxInt),
		appendCall(api.Entry{Index: 20, Term: math.MaxInt, Kind: math.MaxInt, Members: []int{-1, 0, math.MinInt, math.MaxInt}}),
		snapCall(api.Snap{Index: 1000, Term: math.MaxInt, Members: []int{-1, math.MinInt}, Data: strings.Repeat("s", 1<<16)}),
		appendCall(row(1001, 3, 0, "f")...), cutCall(1001), voteCall(5, 9), appendCall(row(1001, 30, 8, "\x00\xff")...),
		snapCall(api.Snap{Index: 1010, Term: 8, Data: "T"}), snapCall(api.Snap{Index: 1 << 60, Term: 1 << 60}),
		appendCall(row(1<<60+1, 2, 1<<60, "g")...), cutCall(1<<60 + 1), voteCall(1, 1),
	}
}

// P6.1: prefixes about the bounds.
func TestOpenPrefix(t *testing.T) {
	for _, n := range []int{0, 41, 42, 100, 1000} {
		d := made(t, 1000)
		if k, e := Open(d, strings.Repeat("p", n)); k != nil || e != api.ErrArg {
			t.Errorf("Open with %d bytes: %v, %d", n, k, e)
		}
		if d.Ops() != 0 {
			t.Errorf("Open with %d bytes does something to the disk", n)
		}
	}
	d := made(t, 100000)
	for n := 1; n <= 40; n++ {
		prefix := strings.Repeat("p", n)
		isErr(t, "Vote", opened(t, d, prefix).Vote(n, 1), api.OK)
	}
	for n := 1; n <= 40; n++ {
		prefix := strings.Repeat("p", n)
		isHard(t, "one of 40", opened(t, d, prefix).Hard(), api.Hard{Term: n, Vote: 1})
	}
	for _, name := range d.Names() {
		if !strings.HasPrefix(name, "p") {
			t.Errorf("a file %q", name)
		}
	}
}

// P6.1: bytes of a prefix may be any.
func TestOpenPrefixBytes(t *testing.T) {
	d := made(t, 10000)
	for c := range 50 {
		prefix := string([]byte{byte(5 * c)})
		isErr(t, "Vote", opened(t, d, prefix).Vote(c, 2), api.OK)
		isHard(t, "prefix "+prefix, opened(t, d.Crash(), prefix).Hard(), api.Hard{Term: c, Vote: 2})
	}
}

// P6.1, P6.2: nothing is stored yet.
func TestOpenNew(t *testing.T) {
	for _, room := range []int{0, 1, 10, 1000, api.MaxDisk} {
		d := made(t, room)
		for range 3 {
			isHard(t, "a new one", opened(t, d, "k").Hard(), api.Hard{})
			d = d.Crash()
		}
	}
	isHard(t, "on the zero Disk", opened(t, new(disk.Disk), "k").Hard(), api.Hard{})
}

// P6.1: a nil disk has no room for a file.
func TestOpenNil(t *testing.T) {
	for prefix, want := range map[string]api.Errno{"k": api.ErrFull, "": api.ErrArg, strings.Repeat("p", 41): api.ErrArg} {
		if k, e := Open(nil, prefix); k != nil || e != want {
			t.Errorf("Open of nil with %q: %v, %d", prefix, k, e)
		}
	}
}

// P6.1: a disk that may have no file more.
func TestOpenFiles(t *testing.T) {
	d := made(t, 100000)
	for i := range api.MaxFiles {
		d.Append(fmt.Sprint("f", i))
	}
	if k, e := Open(d, "k"); k != nil || e != api.ErrFull {
		t.Errorf("Open tells %v, %d", k, e)
	}
	isErr(t, "Remove", d.Remove("f7"), api.OK)
	k := opened(t, d, "k")
	// P6.3: from then on, the room alone tells how much fits.
	for i := range 500 {
		isErr(t, "Vote", k.Vote(i, 1), api.OK)
	}
	isErr(t, "Append", k.Append(row(1, 100, 1, strings.Repeat("x", 200))...), api.OK)
	isErr(t, "Snap", k.Snap(api.Snap{Index: 100, Term: 1, Data: "s"}), api.OK)
	isHard(t, "on a disk full of files", opened(t, d.Crash(), "k").Hard(), api.Hard{Term: 499, Vote: 1, Snap: api.Snap{Index: 100, Term: 1, Data: "s"}})
	isErr(t, "Remove", d.Remove("f8"), api.OK)
	isErr(t, "Vote", k.Vote(1, 2), api.OK)
	if n := used(d); n > 1000 {
		t.Errorf("%d bytes are left when a file more may be", n)
	}
	isHard(t, "on a disk with a place", opened(t, d.Crash(), "k").Hard(), api.Hard{Term: 1, Vote: 2, Snap: api.Snap{Index: 100, Term: 1, Data: "s"}})
}

// P6.1: a disk that is off.
func TestOpenOff(t *testing.T) {
	laid := made(t, 10000)
	isErr(t, "Vote", opened(t, laid, "k").Vote(1, 2), api.OK)
	for _, d := range []*disk.Disk{made(t, 10000), laid} {
		d.Cut(0)
		before := files(d)
		if k, e := Open(d, "k"); k != nil || e != api.ErrOff {
			t.Errorf("Open tells %v, %d", k, e)
		}
		if !reflect.DeepEqual(before, files(d)) {
			t.Error("Open turns a disk that is off")
		}
		isErr(t, "Open without a prefix", second(Open(d, "")), api.ErrArg)
	}
	laid.Remove("k" + fileName)
	laid = laid.Crash()
	lay(t, laid, "k"+fileName, []byte("other bytes"))
	laid.Cut(0)
	isErr(t, "Open of other bytes", second(Open(laid, "k")), api.ErrBad)
}

func second(_ *Keep, e api.Errno) api.Errno { return e }

// P6.1, P6.2, P6.3: each call of a history, and Open after each of them.
func TestCalls(t *testing.T) {
	for _, prefix := range []string{"k", strings.Repeat("p", 40)} {
		d := made(t, 1000000)
		do(t, opened(t, d, prefix), d, prefix, calls()...)
	}
}

// P6.2: a history in which each call is on a Keep that was just opened.
func TestCallsReopened(t *testing.T) {
	d := made(t, 1000000)
	for _, c := range calls() {
		do(t, opened(t, d, "k"), d, "k", c)
		d = d.Crash()
	}
}

// P6.1: what stands under another prefix is another's, whatever its letters.
func TestPrefixes(t *testing.T) {
	prefixes := []string{"k", "kk", "l", "klog", "knew", "klogk", "lo", "log", "new", "n"}
	d := made(t, api.MaxDisk)
	keeps := map[string]*Keep{}
	want := map[string]api.Hard{}
	for _, p := range prefixes {
		keeps[p] = opened(t, d, p)
	}
	for i, c := range calls() {
		for j, p := range prefixes {
			if (i+j)%3 != 0 && j > 0 {
				continue
			}
			h, e := c.by(want[p])
			isErr(t, c.name, c.on(keeps[p]), e)
			want[p] = h
		}
		for _, p := range prefixes {
			isHard(t, p, keeps[p].Hard(), want[p])
			isHard(t, p+" opened again", opened(t, d.Crash(), p).Hard(), want[p])
		}
	}
}

// P6.2: what is refused, about each bound; and what just isn't.
func TestRefused(t *testing.T) {
	d := made(t, 1000000)
	k := opened(t, d, "k")
	do(t, k, d, "k", voteCall(3, 1), appendCall(row(1, 5, 2, "a")...), snapCall(api.Snap{Index: 2, Term: 2, Data: "s"}))
	big := strings.Repeat("x", api.MaxData)
	ten := []int{1, 2, 3, 4, 5, 6, 7, 8, 9, 10}
	data := strings.Repeat("x", api.MaxFrame/2)
	refused := []call{
		voteCall(-1, 0), voteCall(0, -1), voteCall(math.MinInt, math.MinInt),
		appendCall(en(5, 2, "")), appendCall(en(7, 2, "")), appendCall(en(0, 2, "")), appendCall(en(-1, 2, "")),
		appendCall(en(6, 2, ""), en(6, 2, "")), appendCall(en(6, 2, ""), en(8, 2, "")), appendCall(en(6, 2, ""), en(5, 2, "")),
		appendCall(en(6, -1, "")), appendCall(api.Entry{Index: 6, Kind: -1}), appendCall(en(6, 2, big+"x")), appendCall(en(6, 2, "", ten...)),
		appendCall(append(row(6, 3, 2, ""), en(9, -1, ""))...), appendCall(append(row(6, 3, 2, ""), en(9, 1, big+"x"))...),
		cutCall(2), cutCall(1), cutCall(0), cutCall(-1), cutCall(math.MinInt),
		snapCall(api.Snap{Index: 2, Term: 2}), snapCall(api.Snap{Index: 1, Term: 2}), snapCall(api.Snap{}), snapCall(api.Snap{Index: -1}),
		snapCall(api.Snap{Index: 3, Term: -1}), snapCall(api.Snap{Index: 3, Members: ten}), snapCall(api.Snap{Index: 3, Data: data + "x"}),
	}
	for _, c := range refused {
		if _, e := c.by(k.Hard()); e != api.ErrArg {
			t.Fatalf("%s should be refused", c.name)
		}
	}
	do(t, k, d, "k", refused...)
	do(t, k, d, "k", appendCall(en(6, 0, big, ten[:9]...)), appendCall(api.Entry{Index: 7}), voteCall(0, 0), cutCall(8), cutCall(7),
		snapCall(api.Snap{Index: 3, Term: 0, Members: ten[:9], Data: data}), appendCall(en(4, 0, "")), cutCall(math.MaxInt), cutCall(4))
}

// P6.2: calls that have nothing to do don't touch the disk.
func TestIdle(t *testing.T) {
	d := made(t, 10000)
	k := opened(t, d, "k")
	for range 2 {
		ops := d.Ops()
		isErr(t, "Append of nothing", k.Append(), api.OK)
		isErr(t, "Cut beyond the last", k.Cut(lastOf(k.Hard())+1), api.OK)
		isErr(t, "Cut far beyond the last", k.Cut(math.MaxInt), api.OK)
		if d.Ops() != ops {
			t.Errorf("%d operations for nothing", d.Ops()-ops)
		}
		isErr(t, "Append", k.Append(row(lastOf(k.Hard())+1, 3, 1, "a")...), api.OK)
	}
}

// P6.2: the greatest Index has none behind it.
func TestGreatestIndex(t *testing.T) {
	d := made(t, 10000)
	k := opened(t, d, "k")
	isErr(t, "Snap", k.Snap(api.Snap{Index: math.MaxInt - 1}), api.OK)
	isErr(t, "Append of the greatest", k.Append(en(math.MaxInt, 1, "")), api.OK)
	isErr(t, "Append behind it", k.Append(en(math.MinInt, 1, "")), api.ErrArg)
	isErr(t, "Append of both", opened(t, made(t, 100), "k").Append(en(math.MaxInt, 1, ""), en(math.MinInt, 1, "")), api.ErrArg)
	isErr(t, "Cut", k.Cut(math.MaxInt), api.OK)
	isErr(t, "Snap", k.Snap(api.Snap{Index: math.MaxInt}), api.OK)
	isErr(t, "Cut", k.Cut(math.MaxInt), api.ErrArg)
	isHard(t, "opened again", opened(t, d, "k").Hard(), api.Hard{Snap: api.Snap{Index: math.MaxInt}})
}

// P6.2: snapshots within the log, at its end and beyond it, of the term that
// stands there and of another.
func TestSnapTerms(t *testing.T) {
	for index := 4; index <= 9; index++ {
		for _, term := range []int{0, 3, 4} {
			d := made(t, 10000)
			k := opened(t, d, "k")
			do(t, k, d, "k", snapCall(api.Snap{Index: 3, Term: 3}), appendCall(row(4, 4, 3, "a")...), snapCall(api.Snap{Index: index, Term: term, Data: "x"}))
			left := 0
			if term == 3 && index <= 7 {
				left = 7 - index
			}
			if n := len(k.Hard().Log); n != left {
				t.Errorf("Snap(%d.%d) leaves %d entries, not %d", index, term, n, left)
			}
			do(t, k, d, "k", appendCall(en(index+left+1, 5, "b")), cutCall(index+1))
		}
	}
}

// P6.2: a log that is long, in one call and in many.
func TestLong(t *testing.T) {
	d := made(t, api.MaxDisk)
	k := opened(t, d, "k")
	isErr(t, "Append of 60000", k.Append(row(1, 60000, 1, "")...), api.OK)
	want := row(1, 60000, 1, "")
	for i := range 60000 {
		e := en(60001+i, 2, "")
		if f := k.Append(e); f != api.OK {
			t.Fatalf("Append of %d tells %d", e.Index, f)
		}
		want = append(want, e)
	}
	isHard(t, "a long log", k.Hard(), api.Hard{Log: want})
	isHard(t, "a long log opened again", opened(t, d.Crash(), "k").Hard(), api.Hard{Log: want})
	for i := 120000; i > 119000; i-- {
		isErr(t, "Cut", k.Cut(i), api.OK)
	}
	for i := range 1000 {
		isErr(t, "Snap", k.Snap(api.Snap{Index: 1 + i, Term: 1}), api.OK)
	}
	h := api.Hard{Snap: api.Snap{Index: 1000, Term: 1}, Log: want[1000:119000]}
	isHard(t, "what is left of a long log", k.Hard(), h)
	isHard(t, "what is left, opened again", opened(t, d.Crash(), "k").Hard(), h)
}

// P6.2, P6.3: a disk that is filled up, entry by entry, and goes on to serve.
func TestFilled(t *testing.T) {
	for _, size := range []int{0, 100, api.MaxData} {
		d := made(t, api.MaxDisk)
		k := opened(t, d, "k")
		n := 0
		e := api.OK
		for ; e == api.OK; n++ {
			e = k.Append(en(n+1, 1, strings.Repeat("x", size)))
		}
		isErr(t, "the last Append", e, api.ErrFull)
		if n < 1000 || n*(size+20) < api.MaxDisk/4 {
			t.Errorf("%d entries of %d bytes fill the disk", n-1, size)
		}
		isHard(t, "a full disk", opened(t, d.Crash(), "k").Hard(), k.Hard())
		isErr(t, "Snap", k.Snap(api.Snap{Index: n, Data: "all"}), api.OK)
		isHard(t, "after Snap", opened(t, d.Crash(), "k").Hard(), api.Hard{Snap: api.Snap{Index: n, Data: "all"}})
		if used(d) > 1000 {
			t.Errorf("%d bytes are left after Snap", used(d))
		}
	}
}

// P6.2, P6.4: one call with more bytes than a frame has, and cuts, crashes and
// tears about each of its frames.
func TestManyFrames(t *testing.T) {
	for _, total := range []int{api.MaxFrame - 1, api.MaxFrame, api.MaxFrame + 1, 2*api.MaxFrame - 1, 2 * api.MaxFrame, 3*api.MaxFrame + 7} {
		l := sized(t, total)
		d := made(t, api.MaxDisk)
		k := opened(t, d, "k")
		isErr(t, "Vote", k.Vote(1, 2), api.OK)
		b, _ := d.Read("k" + fileName)
		head := len(b)
		d.Cut(1)
		isErr(t, "Append", k.Append(l...), api.ErrOff)
		n := total + (total/api.MaxFrame+1)*headSize
		for _, pick := range torn(n) {
			c := d.Crash(pick)
			want := api.Hard{Term: 1, Vote: 2}
			if pick == n {
				want.Log = l
			}
			x := opened(t, c, "k")
			isHard(t, fmt.Sprintf("%d bytes of %d", pick, n), x.Hard(), want)
			b, _ := c.Read("k" + fileName)
			if len(want.Log) == 0 && len(b) != head {
				t.Errorf("%d bytes are left, not %d", len(b), head)
			}
			isErr(t, "Append", x.Append(row(lastOf(want)+1, 2, 1, "b")...), api.OK)
			isHard(t, "goes on", opened(t, c.Crash(), "k").Hard(), x.Hard())
		}
	}
}

// sized is entries of which a call of Append makes that many bytes.
func sized(t *testing.T, total int) []api.Entry {
	t.Helper()
	length := func(l []api.Entry) int {
		var w writer
		appendChange(l).write(&w)
		return len(w.bytes)
	}
	l := row(1, total/(api.MaxData+10), 1, strings.Repeat("x", api.MaxData))
	l = append(l, en(len(l)+1, 1, ""))
	for length(l) < total {
		lack := total - length(l)
		l[len(l)-1].Data = strings.Repeat("y", min(lack, 3000))
		if lack >= 3000 {
			l = append(l, en(len(l)+1, 1, ""))
		} else if length(l) > total {
			l[len(l)-1].Data = strings.Repeat("y", lack-(length(l)-total))
		}
	}
	if length(l) != total {
		t.Fatalf("%d bytes, not %d", length(l), total)
	}
	return l
}

// torn is how many of n bytes a crash may leave: about the ends of all frames.
func torn(n int) []int {
	l := []int{1000, n / 2}
	for at := 0; at < n+20; at += api.MaxFrame + headSize {
		for i := -10; i <= 20; i++ {
			l = append(l, at+i)
		}
	}
	for i := range 10 {
		l = append(l, n-i)
	}
	return slices.DeleteFunc(l, func(i int) bool { return i < 0 || i > n })
}

// P6.3: what is over doesn't pile up.
func TestOver(t *testing.T) {
	d := made(t, 2000)
	k := opened(t, d, "k")
	for i := range 3000 {
		isErr(t, "Vote", k.Vote(i, i%9+1), api.OK)
		isErr(t, "Append", k.Append(row(i+1, 3, i, "abc")...), api.OK)
		isErr(t, "Cut", k.Cut(i+2), api.OK)
		isErr(t, "Snap", k.Snap(api.Snap{Index: i + 1, Term: i, Members: []int{1, 2}, Data: "data"}), api.OK)
		if used(d) > 1000 {
			t.Fatalf("%d bytes after %d rounds", used(d), i)
		}
	}
	isHard(t, "in the end", opened(t, d.Crash(), "k").Hard(), api.Hard{Term: 2999, Vote: 3, Snap: api.Snap{Index: 3000, Term: 2999, Members: []int{1, 2}, Data: "data"}})
}

// bytesOf is a size of a state or of what is handed in, at the least.
func bytesOf(h api.Hard) int {
	n := len(h.Snap.Data)
	for _, e := range h.Log {
		n += len(e.Data)
	}
	return n
}

// P6.3: a room that runs out within each call; then nothing has turned, and the
// room that was free is less than may be asked for.
func TestRooms(t *testing.T) {
	history := []call{
		voteCall(1, 2), appendCall(row(1, 2, 1, "first")...), voteCall(3, 1), appendCall(en(3, 2, strings.Repeat("x", 300))),
		cutCall(3), appendCall(row(3, 20, 2, "more")...), snapCall(api.Snap{Index: 9, Term: 2, Data: strings.Repeat("s", 200)}),
		voteCall(4, 4), cutCall(12), appendCall(row(12, 3, 4, strings.Repeat("y", 150))...),
		snapCall(api.Snap{Index: 13, Term: 4, Data: strings.Repeat("t", 100)}), snapCall(api.Snap{Index: 20, Term: 4, Data: "u"}), voteCall(5, 5),
	}
	met := map[int]bool{}
	for room := 0; room < 6000; room += 7 {
		d := made(t, room)
		k := opened(t, d, "k")
		h := api.Hard{}
		for i, c := range history {
			before, free := files(d), room-used(d)
			next, want := c.by(h)
			e := c.on(k)
			if e == api.ErrFull && want == api.OK {
				met[i] = true
				need := bytesOf(h) + bytesOf(next)
				if free >= 3*need+1000 {
					t.Fatalf("room %d: %s tells ErrFull with %d bytes free for %d", room, c.name, free, need)
				}
				if !reflect.DeepEqual(before, files(d)) {
					t.Fatalf("room %d: %s tells ErrFull and does something", room, c.name)
				}
				next = h
			} else {
				isErr(t, c.name, e, want)
			}
			h = next
			isHard(t, c.name, k.Hard(), h)
			isHard(t, c.name+", opened again", opened(t, d.Crash(), "k").Hard(), h)
		}
	}
	for i, c := range history {
		if !met[i] {
			t.Errorf("%s never lacks room", c.name)
		}
	}
}

// P6.3: the room that others leave; what is over is given up for want of it.
func TestRoomOthers(t *testing.T) {
	d := made(t, 3000)
	k := opened(t, d, "k")
	for i := range 40 {
		isErr(t, "Vote", k.Vote(i, 1), api.OK)
	}
	before := used(d)
	isErr(t, "another's Append", d.Append("other", make([]byte, 3000-before-15)), api.OK)
	isErr(t, "Append of too much", k.Append(en(1, 1, strings.Repeat("x", 40))), api.ErrFull)
	isHard(t, "after ErrFull", opened(t, d.Crash(), "k").Hard(), api.Hard{Term: 39, Vote: 1})
	isErr(t, "another's Truncate", d.Truncate("other", 2400-before), api.OK)
	isErr(t, "Append", k.Append(en(1, 1, strings.Repeat("x", 40))), api.OK)
	for i := range 100 {
		isErr(t, "Vote", k.Vote(i, 2), api.OK)
	}
	isHard(t, "after that", opened(t, d.Crash(), "k").Hard(), api.Hard{Term: 99, Vote: 2, Log: []api.Entry{en(1, 1, strings.Repeat("x", 40))}})
}

// P6.3: more than any disk holds.
func TestHuge(t *testing.T) {
	d := made(t, api.MaxDisk)
	k := opened(t, d, "k")
	isErr(t, "Append of 8 MB", k.Append(row(1, 2000, 1, strings.Repeat("x", api.MaxData))...), api.ErrFull)
	isErr(t, "Append of 4 MB", k.Append(row(1, 1049, 1, strings.Repeat("x", api.MaxData))...), api.ErrFull)
	isHard(t, "after that", k.Hard(), api.Hard{})
	isErr(t, "Append of 4 MB less some", k.Append(row(1, 1040, 1, strings.Repeat("x", api.MaxData))...), api.OK)
	isHard(t, "opened again", opened(t, d.Crash(), "k").Hard(), k.Hard())
}

// afterOff is what holds of a Keep on a disk that has been off.
func afterOff(t *testing.T, k *Keep, d *disk.Disk) {
	t.Helper()
	h := k.Hard()
	next := lastOf(h) + 1
	for range 2 {
		isErr(t, "Vote", k.Vote(1, 1), api.ErrOff)
		isErr(t, "Vote(-1, 1)", k.Vote(-1, 1), api.ErrArg)
		isErr(t, "Append", k.Append(en(next, 1, "")), api.ErrOff)
		isErr(t, "Append of nothing", k.Append(), api.ErrOff)
		isErr(t, "Append with a gap", k.Append(en(next+1, 1, "")), api.ErrArg)
		isErr(t, "Cut", k.Cut(next), api.ErrOff)
		isErr(t, "Cut of the last", k.Cut(h.Snap.Index+1), api.ErrOff)
		isErr(t, "Cut at the snapshot", k.Cut(h.Snap.Index), api.ErrArg)
		isErr(t, "Snap", k.Snap(api.Snap{Index: h.Snap.Index + 1}), api.ErrOff)
		isErr(t, "Snap again", k.Snap(api.Snap{Index: h.Snap.Index}), api.ErrArg)
		isHard(t, "Hard after ErrOff", k.Hard(), h)
		d.Cut(1000) // the power comes back, but not for k
	}
}

// P6.3: what ErrOff means, on a disk that wasn't crashed.
func TestOff(t *testing.T) {
	for n := range 80 {
		d := made(t, 1000000)
		k := opened(t, d, "k")
		h := api.Hard{}
		d.Cut(n)
		e := api.OK
		for _, c := range calls() {
			next, _ := c.by(h)
			if e = c.on(k); e != api.OK {
				isErr(t, c.name, e, api.ErrOff)
				if got := k.Hard(); !same(got, h) && !same(got, next) {
					t.Errorf("cut %d: %s, neither %s nor %s", n, show(got), show(h), show(next))
				}
				afterOff(t, k, d)
				x := opened(t, d, "k")
				if got := x.Hard(); !same(got, h) && !same(got, next) {
					t.Errorf("cut %d: %s, neither %s nor %s", n, show(got), show(h), show(next))
				}
				isHard(t, "opened after ErrOff, and a crash", opened(t, d.Crash(), "k").Hard(), x.Hard())
				isErr(t, "Vote", x.Vote(9, 9), api.OK)
				break
			}
			h = next
		}
		if e == api.OK && n < 40 {
			t.Errorf("cut %d: no call meets it", n)
		}
	}
}

// crashed crashes a disk, and again within Open, some times; then opens it.
func crashed(t *testing.T, d *disk.Disk, picks []int, again []int) (*Keep, *disk.Disk) {
	t.Helper()
	d = d.Crash(picks...)
	for _, n := range again {
		d.Cut(n)
		if _, e := Open(d, "k"); e != api.OK && e != api.ErrOff {
			t.Fatalf("Open with %d operations tells %d", n, e)
		}
		d = d.Crash(picks...)
	}
	return opened(t, d, "k"), d
}

// P6.4: a cut at each operation of a history, and crashes with all kinds of
// picks, in Open too; then the history goes on, up to the next cut.
func TestCrashes(t *testing.T) {
	all := [][]int{nil, {1}, {2, 2}, {5}, {8, 8}, {9}, {11}, {20}, {100}, {-1, -1}, {1000, 7}, {65000}}
	if testing.Short() {
		all = all[:2]
	}
	for n := range 70 {
		for i, picks := range all {
			d := made(t, 1000000)
			k := opened(t, d, "k")
			h := api.Hard{}
			d.Cut(n)
			for j, c := range calls() {
				next, _ := c.by(h)
				e := c.on(k)
				for tries := 0; e == api.ErrOff; tries++ {
					k, d = crashed(t, d, picks, [][]int{nil, {0, 1}, {2, 0, 1}, {3}}[(i+j)%4])
					got := k.Hard()
					if !same(got, h) && !same(got, next) {
						t.Fatalf("cut %d, picks %v, %s: %s, neither %s nor %s", n, picks, c.name, show(got), show(h), show(next))
					}
					e = api.OK
					if !same(got, next) {
						if tries < 4 { // a cut that is met anew each time would never end
							d.Cut(n%4 + tries)
						}
						e = c.on(k)
					}
				}
				isErr(t, c.name, e, api.OK)
				h = next
			}
			isHard(t, "in the end", k.Hard(), h)
		}
	}
}

// anyCall is a call that fits or nearly fits a state.
func anyCall(r *rand.Rand, h api.Hard) call {
	last := lastOf(h)
	switch r.Intn(8) {
	case 0:
		return voteCall(r.Intn(100)-1, r.Intn(9))
	case 1:
		return cutCall(last + 2 - r.Intn(6))
	case 2:
		index := h.Snap.Index + r.Intn(8)
		term := r.Intn(3)
		for _, e := range h.Log {
			if e.Index == index && r.Intn(4) > 0 {
				term = e.Term
			}
		}
		return snapCall(api.Snap{Index: index, Term: term, Members: make([]int, r.Intn(4)), Data: strings.Repeat("s", r.Intn(300))})
	case 3:
		return appendCall(en(last+r.Intn(3), 1, "maybe"))
	}
	return appendCall(row(last+1, r.Intn(5), r.Intn(3), strings.Repeat("x", r.Intn(60)))...)
}

// P6.2 to P6.4: rows of calls, cuts and crashes by chance, held against the
// chapter, on disks with room and with little.
func TestChance(t *testing.T) {
	rounds := 1500
	if testing.Short() {
		rounds = 200
	}
	for seed := range rounds {
		r := rand.New(rand.NewSource(int64(seed)))
		room := 100000
		if seed%3 == 0 {
			room = 500 + r.Intn(4000)
		}
		d := made(t, room)
		k := opened(t, d, "k")
		h := api.Hard{}
		for range 60 {
			if r.Intn(10) == 0 {
				d.Cut(r.Intn(8))
			}
			c := anyCall(r, h)
			next, want := c.by(h)
			e := c.on(k)
			switch e {
			case want:
				h = next
			case api.ErrFull:
				if room == 100000 {
					t.Fatalf("seed %d: %s tells ErrFull", seed, c.name)
				}
			case api.ErrOff:
				var again []int
				for range r.Intn(4) {
					again = append(again, r.Intn(5))
				}
				k, d = crashed(t, d, []int{r.Intn(400), r.Intn(400)}, again)
				if same(k.Hard(), next) {
					h = next
				}
			default:
				t.Fatalf("seed %d: %s tells %d, not %d", seed, c.name, e, want)
			}
			if !same(k.Hard(), h) {
				t.Fatalf("seed %d: %s: %s, not %s", seed, c.name, show(k.Hard()), show(h))
			}
			if b, _ := d.Read("k" + fileName); len(b) != k.size {
				t.Fatalf("seed %d: %s: a file of %d bytes is taken for one of %d", seed, c.name, len(b), k.size)
			}
			if k.logSize != entriesSize(h.Log) {
				t.Fatalf("seed %d: %s: a log of %d bytes is taken for one of %d", seed, c.name, entriesSize(h.Log), k.logSize)
			}
		}
	}
}

// laid is a disk with a file that has changes of all kinds, and its bytes.
func laid(t *testing.T) (*disk.Disk, []byte) {
	t.Helper()
	d := made(t, 100000)
	k := opened(t, d, "k")
	isErr(t, "Vote", k.Vote(300, 2), api.OK)
	isErr(t, "Append", k.Append(en(1, 1, "first", 1, 2), en(2, 300, "second")), api.OK)
	isErr(t, "Append", k.Append(row(3, 4, 300, strings.Repeat("x", 20))...), api.OK)
	isErr(t, "Cut", k.Cut(5), api.OK)
	isErr(t, "Snap", k.Snap(api.Snap{Index: 2, Term: 300, Members: []int{1, 2, 3}, Data: "data"}), api.OK)
	isErr(t, "Vote", k.Vote(301, 1), api.OK)
	b, _ := d.Read("k" + fileName)
	return d, b
}

// isBad holds that Open refuses what stands on a disk, and lets it be.
func isBad(t *testing.T, what string, d *disk.Disk) {
	t.Helper()
	before, ops := files(d), d.Ops()
	if k, e := Open(d, "k"); k != nil || e != api.ErrBad {
		t.Errorf("%s: Open tells %v, %d", what, k, e)
	}
	if ops != d.Ops() || !reflect.DeepEqual(before, files(d)) {
		t.Errorf("%s: Open does something to the disk", what)
	}
}

// P6.1: a file of which a byte was changed.
func TestBadByte(t *testing.T) {
	d, b := laid(t)
	for i := range b {
		for _, x := range []byte{1, 2, 4, 8, 16, 32, 64, 128, 255} {
			c := slices.Clone(b)
			c[i] ^= x
			lay(t, d, "k"+fileName, c)
			isBad(t, fmt.Sprintf("byte %d changed by %d", i, x), d)
		}
	}
}

// P6.1: other bytes in the place of a file, or behind it.
func TestBadBytes(t *testing.T) {
	_, good := laid(t)
	put := func(s string) []byte {
		b, _ := frame.Put([]byte(s))
		return b
	}
	others := map[string][]byte{
		"a letter": []byte("x"), "a text": []byte("other bytes, quite a lot of them"), "ones": []byte(strings.Repeat("\xff", 9)),
		"zeros": make([]byte, 9), "many zeros": make([]byte, 1000), "four zeros": make([]byte, 4), "three of a length": {0, 3, 0},
		"an empty frame": put(""), "another frame": put("hello"), "an unknown kind": put("\x09\x01\x01"), "a kind alone": put("\x01"),
		"a frame of another kind, torn": put("hello, world")[:13], "a whole change in a longer frame": {0, 0, 0, 9, 1, 2, 3, 4, 1, 1, 1},
		"a great frame of letters, torn": append([]byte{0, 2, 0, 0, 1, 2, 3, 4}, "letters"...),
	}
	d := made(t, 100000)
	for what, b := range others {
		lay(t, d, "k"+fileName, b)
		isBad(t, what, d)
		lay(t, d, "k"+fileName, slices.Concat(good, b))
		isBad(t, what+" behind a good file", d)
	}
}

// P6.1: frames whose sums are right, with changes that no call makes.
func TestBadChanges(t *testing.T) {
	w := func(l ...int) []byte {
		var w writer
		w.numbers(l...)
		f, _ := frame.Put(w.bytes)
		return f
	}
	vote, two := w(voteKind, 1, 1), w(appendKind, 1, 2, 1, 1, 0, 0, 1, 1, 0, 0)
	snap := w(snapKind, 1, 1, 0, 0)
	d := made(t, 1000000)
	for what, l := range map[string][][]byte{
		"a negative term":              {w(voteKind, -1, 1)},
		"a negative vote":              {w(voteKind, 1, -1)},
		"a vote and a byte more":       {w(voteKind, 1, 1, 0)},
		"a vote without its end":       {w(voteKind, 1)},
		"a longer number than needed":  {w(voteKind, 1, 1), mustPut("\x01\x81\x00\x01")},
		"a number of 65 bits":          {mustPut("\x01\xff\xff\xff\xff\xff\xff\xff\xff\xff\x02\x01")},
		"a number without an end":      {mustPut("\x01\xff\xff\xff\xff\xff\xff\xff\xff\xff\xff\xff\xff")},
		"no entries":                   {w(appendKind, 1, 0)},
		"fewer than no entries":        {w(appendKind, 1, -1)},
		"more entries than there are":  {w(appendKind, 1, 3, 1, 1, 0, 0)},
		"very many entries":            {w(appendKind, 1, math.MaxInt, 1, 1, 0, 0)},
		"fewer entries than there are": {w(appendKind, 1, 1, 1, 1, 0, 0, 1, 1, 0, 0)},
		"entries with a gap":           {two, w(appendKind, 4, 1, 1, 1, 0, 0)},
		"entries twice":                {two, two},
		"entries from 0 on":            {w(appendKind, 0, 1, 1, 1, 0, 0)},
		"an entry of negative term":    {w(appendKind, 1, 1, -1, 1, 0, 0)},
		"an entry of negative kind":    {w(appendKind, 1, 1, 1, -1, 0, 0)},
		"an entry of negative data":    {w(appendKind, 1, 1, 1, 1, -1, 0)},
		"an entry of too long data":    {mustPut("\x02\x01\x01\x01\x01\xa1\x1f" + strings.Repeat("x", 4001) + "\x00")},
		"an entry of ten members":      {w(appendKind, 1, 1, 1, 1, 0, 10, 1, 2, 3, 4, 5, 6, 7, 8, 9, 10)},
		"an entry of negative members": {w(appendKind, 1, 1, 1, 1, 0, -1)},
		"a cut of nothing":             {two, w(cutKind, 3)},
		"a cut at the snapshot":        {two, snap, w(cutKind, 1)},
		"a negative cut":               {two, w(cutKind, -1)},
		"a snapshot twice":             {snap, snap},
		"a snapshot of index 0":        {w(snapKind, 0, 1, 0, 0)},
		"a snapshot of negative term":  {w(snapKind, 1, -1, 0, 0)},
		"a snapshot of ten members":    {w(snapKind, 1, 1, 10, 1, 2, 3, 4, 5, 6, 7, 8, 9, 10, 0)},
		"a snapshot of too long data":  {mustPut("\x04\x01\x01\x00\x81\x80\x04" + strings.Repeat("x", 1<<16+1))},
		"a bad change among good ones": {vote, w(voteKind, 1), vote},
		"a full frame, not gone on":    {mustPut("\x04\x01\x01\x00" + strings.Repeat("x", api.MaxFrame-4)), vote},
	} {
		lay(t, d, "k"+fileName, slices.Concat(l...))
		isBad(t, what, d)
	}
	lay(t, d, "k"+fileName, slices.Concat(vote, two, snap, w(cutKind, 2)))
	isHard(t, "good changes", opened(t, d, "k").Hard(), api.Hard{Term: 1, Vote: 1, Snap: api.Snap{Index: 1, Term: 1}})
}

func mustPut(s string) []byte {
	f, ok := frame.Put([]byte(s))
	if !ok {
		panic("too long for a frame")
	}
	return f
}

// P6.1, P6.4: a file that ends anywhere is as good as its whole changes.
func TestTornFile(t *testing.T) {
	_, b := laid(t)
	states := map[int]api.Hard{}
	ends := []int{0}
	for at := range len(b) + 1 {
		if s, size, ok := load(b[:at]); !ok {
			t.Fatalf("%d bytes are bad", at)
		} else if size == at {
			states[at] = s.Hard
			ends = append(ends, at)
		}
	}
	if len(ends) != 8 {
		t.Fatalf("%d ends", len(ends))
	}
	for at := range len(b) + 1 {
		d := made(t, len(b)) // mending takes no room
		lay(t, d, "k"+fileName, b[:at])
		end := 0
		for _, x := range ends {
			if x <= at {
				end = x
			}
		}
		isHard(t, fmt.Sprintf("the first %d bytes", at), opened(t, d, "k").Hard(), states[end])
		if got := files(d); len(got) != 1 || got["k"+fileName] != string(b[:end]) {
			t.Errorf("the first %d bytes are mended to %q", at, got)
		}
	}
}

// P6.1, P6.4: a spare file, as a crash may leave it and as it can't.
func TestSpare(t *testing.T) {
	d, b := laid(t)
	want := opened(t, d, "k").Hard()
	s, _, _ := load(b)
	spare := slices.Concat(framesOf(s.changes()...)...)
	for at := range len(spare) + 1 {
		for n := range 3 {
			c := d.Copy()
			lay(t, c, "k"+spareName, spare[:at])
			c.Cut(n)
			Open(c, "k")
			c = c.Crash()
			isHard(t, fmt.Sprintf("with a spare file of %d bytes", at), opened(t, c, "k").Hard(), want)
			if got := files(c); len(got) != 1 || got["k"+fileName] != string(b) {
				t.Errorf("a spare file of %d bytes is mended to %q", at, got)
			}
		}
	}
	for i := range spare {
		c := slices.Clone(spare)
		c[i] ^= 0x80
		lay(t, d, "k"+spareName, c)
		isBad(t, fmt.Sprintf("a spare file with byte %d changed", i), d)
	}
	for _, c := range [][]byte{[]byte("x"), []byte("other bytes"), b, mustPut("\x03\x01"), spare[11:]} {
		lay(t, d, "k"+spareName, c)
		isBad(t, fmt.Sprintf("the spare file %q", c), d)
	}
	for _, c := range [][]byte{nil, spare} {
		alone := made(t, 10000)
		lay(t, alone, "k"+spareName, c)
		isBad(t, "a spare file alone", alone)
	}
}

// P6.5: a nil and a zero Keep.
func TestNone(t *testing.T) {
	for _, k := range []*Keep{nil, {}} {
		for range 2 {
			isHard(t, "Hard", k.Hard(), api.Hard{})
			isErr(t, "Vote", k.Vote(1, 1), api.ErrOff)
			isErr(t, "Vote(-1, 1)", k.Vote(-1, 1), api.ErrArg)
			isErr(t, "Vote(1, -1)", k.Vote(1, -1), api.ErrArg)
			isErr(t, "Append", k.Append(en(1, 1, "a")), api.ErrOff)
			isErr(t, "Append of nothing", k.Append(), api.ErrOff)
			isErr(t, "Append with a gap", k.Append(en(2, 1, "a")), api.ErrArg)
			isErr(t, "Append of a negative term", k.Append(en(1, -1, "a")), api.ErrArg)
			isErr(t, "Cut", k.Cut(1), api.ErrOff)
			isErr(t, "Cut(0)", k.Cut(0), api.ErrArg)
			isErr(t, "Snap", k.Snap(api.Snap{Index: 1}), api.ErrOff)
			isErr(t, "Snap of index 0", k.Snap(api.Snap{}), api.ErrArg)
			isErr(t, "Snap of a negative term", k.Snap(api.Snap{Index: 1, Term: -1}), api.ErrArg)
		}
	}
}

// P6.6: what was handed in turns afterwards.
func TestArguments(t *testing.T) {
	d := made(t, 100000)
	k := opened(t, d, "k")
	members := append(make([]int, 0, 8), 1, 2, 3)
	l := append(make([]api.Entry, 0, 8), en(1, 1, "a", members...), en(2, 1, "b", members[:2]...))
	l[0].Members, l[1].Members = members, members[:2]
	isErr(t, "Append", k.Append(l...), api.OK)
	isErr(t, "Append", k.Append(en(3, 1, "c")), api.OK)
	isErr(t, "Snap", k.Snap(api.Snap{Index: 1, Term: 1, Members: members[:1]}), api.OK)
	if !slices.Equal(members[:8], []int{1, 2, 3, 0, 0, 0, 0, 0}) || len(l[:8][2].Data) != 0 || l[:8][2].Index != 0 || l[0].Data != "a" || l[1].Data != "b" {
		t.Error("an argument was changed")
	}
	want := api.Hard{Snap: api.Snap{Index: 1, Term: 1, Members: []int{1}}, Log: []api.Entry{en(2, 1, "b", 1, 2), en(3, 1, "c")}}
	for i := range members[:8] {
		members[:8][i] = 99
	}
	for i := range l[:8] {
		l[:8][i] = en(7, 7, "turned")
	}
	isHard(t, "after the arguments were written to", k.Hard(), want)
	for i := range 100 {
		isErr(t, "Vote", k.Vote(i, 0), api.OK) // the file is replaced meanwhile
	}
	want.Term = 99
	isHard(t, "opened after that", opened(t, d.Crash(), "k").Hard(), want)
}

// P6.6: what Hard told turns afterwards.
func TestResults(t *testing.T) {
	d := made(t, 100000)
	k := opened(t, d, "k")
	isErr(t, "Snap", k.Snap(api.Snap{Index: 5, Term: 1, Members: []int{1, 2}, Data: "s"}), api.OK)
	isErr(t, "Append", k.Append(en(6, 1, "a", 1, 2), en(7, 1, "b", 3)), api.OK)
	want := k.Hard()
	spoil := func(h api.Hard) {
		all := append(h.Log[:cap(h.Log):cap(h.Log)], api.Entry{})
		for i := range h.Log[:cap(h.Log)] {
			for j := range all[i].Members[:cap(all[i].Members)] {
				h.Log[:cap(h.Log)][i].Members[:cap(all[i].Members)][j] = 77
			}
			h.Log[:cap(h.Log)][i] = en(7, 7, "turned")
		}
		for j := range h.Snap.Members[:cap(h.Snap.Members)] {
			h.Snap.Members[:cap(h.Snap.Members)][j] = 77
		}
	}
	first, other := k.Hard(), k.Hard()
	spoil(first)
	isHard(t, "another result", other, want)
	isHard(t, "Hard", k.Hard(), want)
	spoil(k.Hard())
	isErr(t, "Append", k.Append(en(8, 1, "c")), api.OK)
	spoil(k.Hard())
	want.Log = append(want.Log, en(8, 1, "c"))
	isHard(t, "Hard after Append", k.Hard(), want)
	isHard(t, "opened again", opened(t, d.Crash(), "k").Hard(), want)
	kept := k.Hard()
	do(t, k, d, "k", cutCall(7), appendCall(en(7, 9, "other", 9)), snapCall(api.Snap{Index: 6, Term: 1, Members: []int{8}}), voteCall(9, 9))
	isHard(t, "a result from before", kept, want)
	x := opened(t, d, "k")
	h := x.Hard()
	spoil(x.Hard())
	isHard(t, "Hard of what was opened", x.Hard(), h)
}

// P6.6: no two lists of one result share memory.
func TestResultLists(t *testing.T) {
	k := opened(t, made(t, 10000), "k")
	members := []int{1, 2}
	l := []api.Entry{en(1, 1, "a"), en(2, 1, "b"), en(3, 1, "c")}
	for i := range l {
		l[i].Members = members
	}
	isErr(t, "Append", k.Append(l...), api.OK)
	isErr(t, "Snap", k.Snap(api.Snap{Index: 1, Term: 1, Members: members}), api.OK)
	h := k.Hard()
	h.Log[0].Members[0] = 9
	h.Snap.Members[1] = 8
	h.Log[0].Members = append(h.Log[0].Members, 7)
	if !slices.Equal(h.Log[1].Members, []int{1, 2}) || !slices.Equal(h.Snap.Members, []int{1, 8}) || !slices.Equal(members, []int{1, 2}) {
		t.Errorf("lists share memory: %s", show(h))
	}
}

// The disk is the Keep's only means: two that went the same way are alike, and
// a Keep goes on as one that is opened in its place would.
func TestAlike(t *testing.T) {
	d, c := made(t, 1000000), made(t, 1000000)
	k, l := opened(t, d, "k"), opened(t, c, "k")
	for _, x := range calls() {
		isErr(t, x.name, x.on(k), x.on(l))
		l = opened(t, c, "k")
		isHard(t, x.name, k.Hard(), l.Hard())
		if !reflect.DeepEqual(files(d), files(c)) {
			t.Errorf("after %s: %q and %q", x.name, files(d), files(c))
		}
	}
}
