package raft

import (
	"fmt"
	"math/rand"
	"reflect"
	"slices"
	"testing"

	"parapet/api"
)

// region is memory that a slice has, the room behind it too.
type region struct {
	from, to uintptr
}

// regions are those of all slices of a value.
func regions(v reflect.Value) []region {
	var l []region
	switch v.Kind() {
	case reflect.Pointer:
		if !v.IsNil() {
			l = regions(v.Elem())
		}
	case reflect.Interface:
		l = regions(v.Elem())
	case reflect.Struct:
		for i := range v.NumField() {
			l = append(l, regions(v.Field(i))...)
		}
	case reflect.Slice:
		size := uintptr(v.Cap()) * v.Type().Elem().Size()
		if size > 0 {
			l = append(l, region{v.Pointer(), v.Pointer() + size})
		}
		for i := range v.Len() {
			l = append(l, regions(v.Index(i))...)
		}
	}
	return l
}

// isNew holds that the lists of a result share no memory, neither with each other
// nor with what else there is.
func isNew(t *testing.T, what string, result any, others ...any) {
	t.Helper()
	own := regions(reflect.ValueOf(result))
	var all []region
	for _, x := range others {
		all = append(all, regions(reflect.ValueOf(x))...)
	}
	for i, a := range own {
		for _, b := range append(all, own[:i]...) {
			if a.from < b.to && b.from < a.to {
				t.Errorf("%s: lists of %s share memory", what, text(result))
				return
			}
		}
	}
}

// scribble writes over all that the lists of a value hold, and behind them.
func scribble(x any) { overwrite(reflect.ValueOf(x)) }

func overwrite(v reflect.Value) {
	switch v.Kind() {
	case reflect.Interface:
		overwrite(v.Elem())
	case reflect.Struct:
		for i := range v.NumField() {
			overwrite(v.Field(i))
		}
	case reflect.Slice:
		full := v.Slice(0, v.Cap())
		for i := range full.Len() {
			overwrite(full.Index(i))
			full.Index(i).Set(reflect.Zero(full.Index(i).Type()))
		}
	}
}

// spare is l with room behind it, in which something stands.
func spare[T any](l []T, fill T) []T {
	s := append(slices.Clone(l), fill, fill, fill)
	return s[:len(l)]
}

func roomyEntries(l []api.Entry) []api.Entry {
	l = slices.Clone(l)
	for i := range l {
		l[i].Members = spare(l[i].Members, 7)
	}
	return spare(l, mem(77, 77, 7))
}

// everything is a value as a text, with what stands behind each of its lists.
func everything(x any) string { return spelt(reflect.ValueOf(x)) }

func spelt(v reflect.Value) string {
	s := "("
	switch v.Kind() {
	case reflect.Interface:
		s += spelt(v.Elem())
	case reflect.Struct:
		for i := range v.NumField() {
			s += spelt(v.Field(i))
		}
	case reflect.Slice:
		full := v.Slice(0, v.Cap())
		s += fmt.Sprint(v.Len())
		for i := range full.Len() {
			s += spelt(full.Index(i))
		}
	default:
		s += text(v.Interface())
	}
	return s + ")"
}

// roomy is hard with room behind all its lists.
func roomy() api.Hard {
	h := hard()
	h.Snap.Members, h.Log = spare(h.Snap.Members, 7), roomyEntries(h.Log)
	return h
}

// P8.9: New neither turns nor keeps what it is handed.
func TestNewArguments(t *testing.T) {
	h, members, draws := roomy(), spare([]int{2, 1}, 7), spare([]int{5, 6}, 7)
	all := []any{h, members, draws}
	was := everything(all)
	r := made(t, 1, h, members, draws...)
	isNew(t, "New", all, r)
	ticks(r, 40)
	r.Step(appendMsg(2, 1, 5, 6, 3, 6, none(7, 4), mem(8, 5, 1, 9)))
	r.Compact("x")
	ticks(r, 40)
	h.Log[2].Kind = 3
	New(1, h, members, draws...)
	h.Log[2].Kind = 0
	New(1, h, spare([]int{2, 2}, 7), draws...)
	is(t, "what New was handed", everything(all), was)

	r = made(t, 1, h, members, draws...)
	scribble(all)
	is(t, "a node when its arguments are written to", r.View(), View{hard(), 1, 0, 4, 15, []int{4, 2}})
	ticks(r, 15)
	is(t, "its next draw", r.View().Left, 16)
	members = spare([]int{2, 1}, 7)
	r = made(t, 1, api.Hard{}, members)
	scribble(members)
	is(t, "its Members", r.View().Members, []int{2, 1})
}

// P8.9: Step neither turns nor keeps what it is handed.
func TestStepArguments(t *testing.T) {
	for _, m := range []api.Msg{
		appendMsg(2, 1, 5, 7, 5, 7, mem(8, 5, 3, 1), en(9, 5, "x")),
		appendMsg(2, 1, 6, 4, 2, 9, en(5, 2, "y"), mem(6, 4, 9), mem(7, 4, 8, 1)),
		appendMsg(2, 1, 6, 9, 2, 9, mem(10, 4, 9)),
		appendMsg(2, 1, 6, 7, 5, 9, mem(8, 4)),
		snapMsg(2, 1, 5, api.Snap{Index: 5, Term: 2, Members: []int{1, 5}, Data: "s"}),
		snapMsg(2, 1, 5, api.Snap{Index: 9, Term: 2, Members: []int{1, 5}, Data: "s"}),
	} {
		m.Entries, m.Snap.Members = roomyEntries(m.Entries), spare(m.Snap.Members, 7)
		was := everything(m)
		r := made(t, 1, hard(), nil)
		out := r.Step(m)
		isNew(t, "Step", []any{out, m, r.View()}, r)
		r.Step(appendMsg(3, 1, 7, 5, 2, 9, mem(6, 7, 3, 2, 1)))
		r.Compact("t")
		ticks(r, 40)
		is(t, "what Step was handed", everything(m), was)

		r = made(t, 1, hard(), nil)
		r.Step(m)
		v := r.View()
		scribble(m)
		is(t, "a node when a message is written to", r.View(), v)
	}
}

// asked is a leader of five that has a log of all kinds, and calls to it that tell
// lists.
func asked(t *testing.T) (r *Raft, calls []func() any) {
	t.Helper()
	h := hard()
	h.Log[0].Members = []int{4, 4}
	h.Log[1].Members = nodesTo(5)
	r = led(t, 1, h, nil)
	r.Step(answerMsg(2, 1, 6, true, 8))
	r.Step(answerMsg(3, 1, 6, true, 8))
	r.Step(answerMsg(4, 1, 6, false, 0))
	r.Step(answerMsg(5, 1, 6, false, 4))
	return r, []func() any{
		func() any { return r.View() },
		func() any { return r.Entries(0) },
		func() any { return ticks(r, 3) },
		func() any { _, l, _ := r.Propose("a", "b"); return l },
		func() any { _, l, _ := r.Change(6, true); return l },
		func() any { return r.Step(answerMsg(4, 1, 6, false, 0)) },
		func() any { return r.Step(answerMsg(5, 1, 6, true, 5)) },
		func() any { return r.Step(answerMsg(6, 1, 6, false, 0)) },
		func() any { return r.Compact("s") },
	}
}

// P8.9: what is returned is new: it shares no memory with the node or within, and
// the node doesn't turn when it is written to. Another node that is asked the same
// tells the same.
func TestResults(t *testing.T) {
	r, calls := asked(t)
	_, same := asked(t)
	for range 3 {
		for i, call := range calls {
			got, want := call(), same[i]()
			is(t, fmt.Sprint("the same call ", i, " of another node"), got, want)
			v := r.View()
			isNew(t, fmt.Sprint("call ", i), []any{got, want, v}, r)
			scribble(got)
			is(t, fmt.Sprint("the node when what call ", i, " told is written to"), r.View(), v)
		}
	}
}

// P8.9: an election sends to several, and a snapshot goes to several.
func TestResultsToMany(t *testing.T) {
	r := led(t, 1, api.Hard{}, nodesTo(5))
	for _, p := range []int{2, 3} {
		r.Step(answerMsg(p, 1, 1, true, 1))
	}
	r.Change(5, false)
	for _, p := range []int{2, 3} {
		r.Step(answerMsg(p, 1, 1, true, 2))
	}
	r.Compact("s")
	for _, p := range []int{2, 3, 4} {
		r.Step(answerMsg(p, 1, 1, false, 0))
	}
	l := ticks(r, 3)
	is(t, "snapshots", []int{len(l), l[0].Kind, l[1].Kind, l[2].Kind}, []int{3, 5, 5, 5})
	isNew(t, "snapshots", l, r)
	scribble(l[0])
	is(t, "another one", l[1].Snap.Members, nodesTo(4))
	is(t, "the node's", r.View().Hard.Snap.Members, nodesTo(4))
}

// P8.9: a node that is made from another's Hard is independent of it.
func TestApart(t *testing.T) {
	a := led(t, 1, api.Hard{Term: 5, Log: []api.Entry{mem(1, 1, 2, 1), none(2, 3)}}, nil)
	b := made(t, 2, a.View().Hard, nil)
	was := a.View()
	b.Step(appendMsg(1, 2, 9, 1, 1, 9, none(2, 9), mem(3, 9, 8, 2)))
	b.Compact("b")
	ticks(b, 100)
	is(t, "the first", a.View(), was)
	other := b.View()
	a.Propose("a")
	a.Step(voteMsg(3, 1, 20, 20, 20))
	is(t, "the second", b.View(), other)
}

// The same calls tell the same, whatever other nodes do in between.
func TestSame(t *testing.T) {
	script := func(seed int64, disturb bool) string {
		r := rand.New(rand.NewSource(seed))
		p := newPair(t, 1, api.Hard{}, nodesTo(1+int(seed)%4), 3, 1, 4)
		s := ""
		for range 200 {
			if disturb {
				q := led(t, 2, api.Hard{Log: row(1, 0)}, nodesTo(3))
				scribble(q.View())
			}
			s += text(p.anyCall(t, r, anyMsg(r, 1, p.View()))) + text(p.View())
		}
		return s
	}
	for seed := range int64(20) {
		if script(seed, false) != script(seed, true) {
			t.Errorf("seed %d tells one thing and another", seed)
		}
	}
}
