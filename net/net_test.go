package net

import (
	"fmt"
	"math"
	"slices"
	"strings"
	"testing"

	"parapet/api"
)

// packet is one with the bytes of a text.
func packet(from, to int, text string) api.Packet {
	return api.Packet{From: from, To: to, Bytes: []byte(text)}
}

// text is a packet in short.
func text(p api.Packet) string { return fmt.Sprintf("%d>%d:%s", p.From, p.To, p.Bytes) }

// row is n packets with texts that count up from 0.
func row(n int) []api.Packet {
	var p []api.Packet
	for i := range n {
		p = append(p, packet(1+i%9, 1+(i+1)%9, fmt.Sprint("p", i)))
	}
	return p
}

// texts is packets in short.
func texts(p []api.Packet) string {
	var s []string
	for _, one := range p {
		s = append(s, text(one))
	}
	return strings.Join(s, " ")
}

// show is all that is on its way, as Peek tells it.
func show(n *Net) string {
	var p []api.Packet
	for k := range n.Len() {
		one, ok := n.Peek(k)
		if !ok {
			return fmt.Sprintf("Peek(%d) of %d tells false", k, n.Len())
		}
		p = append(p, one)
	}
	return texts(p)
}

// isShow holds what is on its way against what should be.
func isShow(t *testing.T, what string, n *Net, want string) {
	t.Helper()
	if got := show(n); got != want {
		t.Errorf("%s: %q, not %q", what, got, want)
	}
}

// isSent sends what is taken but for what is lost.
func isSent(t *testing.T, n *Net, want int, p ...api.Packet) {
	t.Helper()
	if got := n.Send(p...); got != want {
		t.Errorf("Send of %d packets = %d, not %d", len(p), got, want)
	}
}

// isPacket holds what Peek or Deliver tells against a packet.
func isPacket(t *testing.T, what, want string, p api.Packet, ok bool) {
	t.Helper()
	if !ok || text(p) != want {
		t.Errorf("%s tells %s, %t; not %s", what, text(p), ok, want)
	}
}

// isNone holds what Peek or Deliver tells against nothing.
func isNone(t *testing.T, what string, p api.Packet, ok bool) {
	t.Helper()
	if ok || p.From != 0 || p.To != 0 || p.Bytes != nil {
		t.Errorf("%s tells %s, %t", what, text(p), ok)
	}
}

// isTrue holds an answer against what it should be.
func isTrue(t *testing.T, what string, got, want bool) {
	t.Helper()
	if got != want {
		t.Errorf("%s = %t", what, got)
	}
}

// filled is a network with the packets a to e.
func filled(t *testing.T) *Net {
	t.Helper()
	n := New()
	isSent(t, n, 5, packet(1, 2, "a"), packet(2, 3, "b"), packet(3, 1, "c"), packet(4, 5, "d"), packet(1, 9, "e"))
	return n
}

const all = "1>2:a 2>3:b 3>1:c 4>5:d 1>9:e"

// beyond are numbers that none of m packets has, for m up to MaxQueue.
func beyond(m int) []int {
	return []int{math.MinInt, -m, -2, -1, m, m + 1, 256, 1 << 32, math.MaxInt}
}

// P5.1: a new network is empty, and each is one of its own.
func TestNew(t *testing.T) {
	n := New()
	if n == nil {
		t.Fatal("New is nil")
	}
	if n.Len() != 0 {
		t.Errorf("New has %d packets", n.Len())
	}
	m := New()
	isSent(t, n, 1, packet(1, 2, "a"))
	isShow(t, "another one", m, "")
	isSent(t, m, 1, packet(3, 4, "b"))
	isShow(t, "the one", n, "1>2:a")
	isShow(t, "the other", m, "3>4:b")
}

// P5.1: packets stand in the order in which they were sent, however many are
// sent at once, with bytes and without.
func TestSend(t *testing.T) {
	p := row(12)
	p[3].Bytes = nil
	p[4].Bytes = []byte{}
	p[5].Bytes = []byte{0, 255, 0}
	for i := range len(p) + 1 {
		for j := i; j <= len(p); j++ {
			n := New()
			isSent(t, n, 0)
			isSent(t, n, i, p[:i]...)
			isSent(t, n, j-i, p[i:j]...)
			isSent(t, n, 0, []api.Packet{}...)
			isSent(t, n, len(p)-j, p[j:]...)
			isShow(t, fmt.Sprintf("sent in parts up to %d and %d", i, j), n, texts(p))
		}
	}
	one := New()
	for i, each := range p {
		isSent(t, one, 1, each)
		isShow(t, "sent one by one", one, texts(p[:i+1]))
	}
	same := New()
	isSent(t, same, 3, p[0], p[0], p[0])
	isShow(t, "the same one three times", same, texts([]api.Packet{p[0], p[0], p[0]}))
}

// P5.1: only packets from one node to another travel.
func TestSendNodes(t *testing.T) {
	ids := []int{math.MinInt, math.MinInt + 1, -256, -9, -2, -1, 0, 1, 2, 3, 4, 5, 6, 7, 8, 9, 10, 11, 99,
		256, 257, 258, 1 << 32, 1<<32 + 1, 1<<32 + 2, math.MaxInt - 1, math.MaxInt}
	n := New()
	for _, from := range ids {
		for _, to := range ids {
			want := 0
			if 1 <= from && from <= 9 && 1 <= to && to <= 9 && from != to {
				want = 1
			}
			isSent(t, n, 2+want, packet(1, 2, "a"), packet(from, to, "b"), packet(2, 1, "c"))
			between := fmt.Sprintf(" %d>%d:b ", from, to)
			if want == 0 {
				between = " "
			}
			isShow(t, fmt.Sprintf("from %d to %d", from, to), n, "1>2:a"+between+"2>1:c")
			for n.Drop(0) {
			}
		}
	}
	isSent(t, n, 0, packet(0, 2, "x"), packet(1, 10, "x"), packet(3, 3, "x"))
	isShow(t, "after lost ones alone", n, "")
}

// P5.1: MaxQueue packets have room, whether they come at once or not; what
// can't travel takes none.
func TestSendFull(t *testing.T) {
	p := row(70)
	full := texts(p[:64])
	for i := range 65 {
		n := New()
		isSent(t, n, i, p[:i]...)
		isSent(t, n, 64-i, p[i:]...)
		isShow(t, fmt.Sprintf("%d and then the rest", i), n, full)
		isSent(t, n, 0, packet(1, 2, "x"), packet(2, 1, "y"))
		isSent(t, n, 0)
		isShow(t, "one beyond", n, full)
	}
	for _, size := range []int{63, 64, 65, 70} {
		n := New()
		isSent(t, n, min(size, 64), p[:size]...)
		isShow(t, fmt.Sprint(size, " at once"), n, texts(p[:min(size, 64)]))
	}
	var mixed []api.Packet
	for _, one := range p[:64] {
		mixed = append(mixed, packet(0, 1, "x"), packet(5, 5, "x"), one, packet(1, 10, "x"))
	}
	n := New()
	isSent(t, n, 64, mixed...)
	isShow(t, "with lost ones between", n, full)
}

// P5.1: what leaves the queue makes room.
func TestSendAgain(t *testing.T) {
	p := row(64)
	n := New()
	isSent(t, n, 64, p...)
	isTrue(t, "Drop(63)", n.Drop(63), true)
	isSent(t, n, 1, packet(1, 2, "x"), packet(1, 2, "y"))
	n.Deliver(0)
	isSent(t, n, 1, packet(1, 2, "z"), packet(1, 2, "y"))
	isShow(t, "after one was dropped and one delivered", n, texts(p[1:63])+" 1>2:x 1>2:z")
	gone := n.Clear(1)
	isSent(t, n, gone, p...)
	if n.Len() != 64 {
		t.Errorf("%d packets", n.Len())
	}
}

// P5.1: Len counts what is there.
func TestLen(t *testing.T) {
	n := New()
	for i, one := range row(70) {
		n.Send(one, packet(0, 1, "x"))
		if n.Len() != min(i+1, 64) {
			t.Errorf("%d packets after %d were sent", n.Len(), i+1)
		}
	}
	for want := 64; want > 0; want-- {
		if n.Len() != want {
			t.Errorf("%d packets, not %d", n.Len(), want)
		}
		n.Deliver(want / 2)
	}
	if n.Len() != 0 {
		t.Errorf("%d packets at the end", n.Len())
	}
}

// P5.1: each packet can be looked at, again and again, and none beside them.
func TestPeek(t *testing.T) {
	for size := range 65 {
		n := New()
		p := row(size)
		isSent(t, n, size, p...)
		for range 2 {
			for k, want := range p {
				got, ok := n.Peek(k)
				isPacket(t, fmt.Sprintf("Peek(%d) of %d", k, size), text(want), got, ok)
			}
			for _, k := range beyond(size) {
				got, ok := n.Peek(k)
				isNone(t, fmt.Sprintf("Peek(%d) of %d", k, size), got, ok)
			}
		}
		isShow(t, "after all Peeks", n, texts(p))
	}
}

// P5.2: each packet can be taken out, and those behind it move up.
func TestDeliver(t *testing.T) {
	whole := strings.Fields(all)
	for k := range whole {
		n := filled(t)
		got, ok := n.Deliver(k)
		isPacket(t, fmt.Sprintf("Deliver(%d)", k), whole[k], got, ok)
		rest := slices.Delete(slices.Clone(whole), k, k+1)
		isShow(t, fmt.Sprintf("after Deliver(%d)", k), n, strings.Join(rest, " "))
		got, ok = n.Deliver(4)
		isNone(t, "Deliver(4) of four", got, ok)
		for i := len(rest) - 1; i >= 0; i-- {
			got, ok = n.Deliver(i)
			isPacket(t, fmt.Sprintf("Deliver(%d) from the end", i), rest[i], got, ok)
		}
		got, ok = n.Deliver(0)
		isNone(t, "Deliver(0) of none", got, ok)
	}
	n := filled(t)
	for _, want := range whole {
		got, ok := n.Deliver(0)
		isPacket(t, "Deliver(0)", want, got, ok)
	}
	isShow(t, "at the end", n, "")
}

// P5.2: the example of the chapter.
func TestDeliverTwo(t *testing.T) {
	n := New()
	isSent(t, n, 2, packet(1, 2, "a"), packet(2, 1, "b"))
	got, ok := n.Deliver(5)
	isNone(t, "Deliver(5)", got, ok)
	got, ok = n.Deliver(1)
	isPacket(t, "Deliver(1)", "2>1:b", got, ok)
	got, ok = n.Deliver(0)
	isPacket(t, "Deliver(0)", "1>2:a", got, ok)
}

// P5.2: each packet can be dropped, and those behind it move up.
func TestDrop(t *testing.T) {
	whole := strings.Fields(all)
	for k := range whole {
		n := filled(t)
		isTrue(t, fmt.Sprintf("Drop(%d)", k), n.Drop(k), true)
		rest := slices.Delete(slices.Clone(whole), k, k+1)
		isShow(t, fmt.Sprintf("after Drop(%d)", k), n, strings.Join(rest, " "))
		isTrue(t, "Drop(4) of four", n.Drop(4), false)
		for i := len(rest) - 1; i >= 0; i-- {
			isTrue(t, fmt.Sprintf("Drop(%d) from the end", i), n.Drop(i), true)
			isShow(t, "after a Drop from the end", n, strings.Join(rest[:i], " "))
		}
		isTrue(t, "Drop(0) of none", n.Drop(0), false)
	}
	n := New()
	isSent(t, n, 2, packet(1, 2, "a"), packet(2, 1, "b"))
	isTrue(t, "Drop(1) of two", n.Drop(1), true)
	isTrue(t, "Drop(1) of one", n.Drop(1), false)
	isShow(t, "after both", n, "1>2:a")
}

// P5.2: each packet can be doubled, at the end of the queue.
func TestTwice(t *testing.T) {
	whole := strings.Fields(all)
	for k := range whole {
		n := filled(t)
		isTrue(t, fmt.Sprintf("Twice(%d)", k), n.Twice(k), true)
		isShow(t, fmt.Sprintf("after Twice(%d)", k), n, all+" "+whole[k])
		isTrue(t, "Twice of the copy", n.Twice(5), true)
		isTrue(t, "Drop of the first", n.Drop(k), true)
		rest := slices.Delete(slices.Clone(whole), k, k+1)
		isShow(t, "after the first was dropped", n, strings.Join(append(rest, whole[k], whole[k]), " "))
	}
	n := New()
	isTrue(t, "Twice(0) of none", n.Twice(0), false)
	isSent(t, n, 1, api.Packet{From: 8, To: 9})
	isTrue(t, "Twice(0) without bytes", n.Twice(0), true)
	isShow(t, "a packet without bytes", n, "8>9: 8>9:")
}

// P5.2: what is full can't be doubled, whichever it is.
func TestTwiceFull(t *testing.T) {
	p := row(63)
	n := New()
	isSent(t, n, 63, p...)
	isTrue(t, "Twice(62) of 63", n.Twice(62), true)
	full := texts(append(p, p[62]))
	for _, k := range []int{0, 1, 31, 62, 63, 64, -1} {
		isTrue(t, fmt.Sprintf("Twice(%d) of 64", k), n.Twice(k), false)
	}
	isShow(t, "when full", n, full)
	isSent(t, n, 0, packet(1, 2, "x"))
	isTrue(t, "Drop(0)", n.Drop(0), true)
	isTrue(t, "Twice(63) of 63", n.Twice(63), false)
	isTrue(t, "Twice(0) of 63", n.Twice(0), true)
	isTrue(t, "Twice(0) of 64", n.Twice(0), false)
	isShow(t, "when full again", n, texts(p[1:])+" "+text(p[62])+" "+text(p[1]))
}

// P5.2: numbers that no packet has.
func TestBeyond(t *testing.T) {
	for size := range 65 {
		n := New()
		p := row(size)
		isSent(t, n, size, p...)
		for _, k := range beyond(size) {
			got, ok := n.Deliver(k)
			isNone(t, fmt.Sprintf("Deliver(%d) of %d", k, size), got, ok)
			isTrue(t, fmt.Sprintf("Drop(%d) of %d", k, size), n.Drop(k), false)
			isTrue(t, fmt.Sprintf("Twice(%d) of %d", k, size), n.Twice(k), false)
		}
		isShow(t, "after numbers beyond", n, texts(p))
	}
}

// P5.2: Clear takes what a node sent and what it is to receive.
func TestClear(t *testing.T) {
	for _, c := range []struct {
		node, gone int
		left       string
	}{
		{1, 3, "2>3:b 4>5:d"},
		{2, 2, "3>1:c 4>5:d 1>9:e"},
		{3, 2, "1>2:a 4>5:d 1>9:e"},
		{4, 1, "1>2:a 2>3:b 3>1:c 1>9:e"},
		{5, 1, "1>2:a 2>3:b 3>1:c 1>9:e"},
		{6, 0, all},
		{9, 1, "1>2:a 2>3:b 3>1:c 4>5:d"},
		{0, 0, all},
		{-1, 0, all},
		{10, 0, all},
		{257, 0, all},
		{1<<32 + 1, 0, all},
		{math.MinInt, 0, all},
		{math.MaxInt, 0, all},
	} {
		n := filled(t)
		for _, want := range []int{c.gone, 0} {
			if got := n.Clear(c.node); got != want {
				t.Errorf("Clear(%d) = %d, not %d", c.node, got, want)
			}
			isShow(t, fmt.Sprintf("after Clear(%d)", c.node), n, c.left)
		}
		isSent(t, n, 1, packet(7, 8, "f"))
		isShow(t, "after one more", n, strings.TrimSpace(c.left+" 7>8:f"))
	}
}

// P5.2: Clear of all nodes, one by one, and of a network that is empty.
func TestClearAll(t *testing.T) {
	n := New()
	if n.Clear(1) != 0 {
		t.Error("an empty network has something to clear")
	}
	isSent(t, n, 64, row(64)...)
	isTrue(t, "Twice when full", n.Twice(0), false)
	sum := 0
	for node := range 11 {
		sum += n.Clear(node)
		for k := range n.Len() {
			if p, _ := n.Peek(k); p.From == node || p.To == node {
				t.Errorf("%s after Clear(%d)", text(p), node)
			}
		}
	}
	if sum != 64 || n.Len() != 0 {
		t.Errorf("%d packets cleared, %d left", sum, n.Len())
	}
}

// P5.1, P5.2: the zero Net is as good as a new one.
func TestZero(t *testing.T) {
	n := new(Net)
	if n.Len() != 0 || n.Clear(1) != 0 || n.Drop(0) || n.Twice(0) {
		t.Error("the zero Net has packets")
	}
	got, ok := n.Peek(0)
	isNone(t, "Peek", got, ok)
	got, ok = n.Deliver(0)
	isNone(t, "Deliver", got, ok)
	isSent(t, n, 0)
	isSent(t, n, 2, packet(1, 2, "a"), packet(0, 1, "x"), packet(2, 1, "b"))
	isTrue(t, "Twice(1)", n.Twice(1), true)
	isShow(t, "the zero Net", n, "1>2:a 2>1:b 2>1:b")
	isTrue(t, "Drop(2)", n.Drop(2), true)
	got, ok = n.Deliver(0)
	isPacket(t, "Deliver(0)", "1>2:a", got, ok)
	if n.Clear(1) != 1 || n.Len() != 0 {
		t.Error("the zero Net isn't cleared")
	}
	isSent(t, new(Net), 64, row(65)...)
}

// P5.1, P5.2: a nil Net has no packets and takes none.
func TestNil(t *testing.T) {
	var n *Net
	for range 2 {
		isSent(t, n, 0)
		isSent(t, n, 0, packet(1, 2, "a"), packet(2, 1, "b"))
		if n.Len() != 0 {
			t.Errorf("%d packets", n.Len())
		}
		for _, k := range beyond(0) {
			got, ok := n.Peek(k)
			isNone(t, "Peek", got, ok)
			got, ok = n.Deliver(k)
			isNone(t, "Deliver", got, ok)
			isTrue(t, "Drop", n.Drop(k), false)
			isTrue(t, "Twice", n.Twice(k), false)
			if n.Clear(k) != 0 {
				t.Errorf("Clear(%d) = %d", k, n.Clear(k))
			}
		}
	}
}

// P5.3: a packet is delivered once, and once more for each Twice.
func TestDeliveries(t *testing.T) {
	n := New()
	p := row(8)
	isSent(t, n, 8, p...)
	for k := range 8 {
		for range k {
			isTrue(t, "Twice", n.Twice(k), true)
		}
	}
	isTrue(t, "Drop(7)", n.Drop(7), true)
	isTrue(t, "Drop(0)", n.Drop(0), true)
	count := map[string]int{}
	for n.Len() > 0 {
		got, ok := n.Deliver(n.Len() / 2)
		isTrue(t, "Deliver", ok, true)
		count[text(got)]++
	}
	for k, one := range p {
		want := k + 1
		if k == 0 || k == 7 {
			want = k
		}
		if count[text(one)] != want {
			t.Errorf("%s was delivered %d times, not %d", text(one), count[text(one)], want)
		}
	}
}

// P5.3: what is handed in is neither changed nor kept.
func TestArguments(t *testing.T) {
	n := New()
	b := []byte("abcdefgh")
	p := []api.Packet{{From: 1, To: 2, Bytes: b[:2]}, {From: 0, To: 2, Bytes: b[2:4]},
		{From: 2, To: 1, Bytes: b[2:5]}, {From: 3, To: 4, Bytes: b[5:]}}
	before := texts(p)
	isSent(t, n, 2, p[:3]...)
	isSent(t, n, 1, p[0])
	isTrue(t, "Twice(0)", n.Twice(0), true)
	n.Deliver(2)
	n.Clear(9)
	if string(b) != "abcdefgh" || texts(p) != before {
		t.Errorf("bytes became %q, packets %s", b, texts(p))
	}
	clear(b)
	clear(p)
	isShow(t, "after what was sent was cleared", n, "1>2:ab 2>1:cde 1>2:ab")
	n.Drop(0)
	isSent(t, n, 1, packet(5, 6, "f"))
	if texts(p) != "0>0: 0>0: 0>0: 0>0:" || string(b) != strings.Repeat("\x00", 8) {
		t.Errorf("later calls made packets %s, bytes %q", texts(p), b)
	}
}

// P5.3: packets that share bytes when they are sent don't once they are.
func TestSharedArguments(t *testing.T) {
	n := New()
	b := []byte("abc")
	one := api.Packet{From: 1, To: 2, Bytes: b}
	isSent(t, n, 3, one, one, api.Packet{From: 2, To: 3, Bytes: b[:1]})
	for left := []string{"1>2:abc", "1>2:abc", "2>3:a"}; len(left) > 0; left = left[1:] {
		isShow(t, "what is left", n, strings.Join(left, " "))
		got, _ := n.Deliver(0)
		spoil(got)
	}
}

// spoil writes to all bytes of a packet, those to spare too.
func spoil(p api.Packet) {
	whole := p.Bytes[:cap(p.Bytes)]
	for i := range whole {
		whole[i] = '#'
	}
	_ = append(p.Bytes, "spoilt"...)
}

// P5.3: what is told is new memory.
func TestResultsAreNew(t *testing.T) {
	n := filled(t)
	for k := range 5 {
		got, _ := n.Peek(k)
		spoil(got)
		again, ok := n.Peek(k)
		isPacket(t, "Peek after a Peek was spoilt", strings.Fields(all)[k], again, ok)
		kept, _ := n.Peek(k)
		spoil(again)
		isPacket(t, "a Peek after another was spoilt", strings.Fields(all)[k], kept, true)
	}
	isShow(t, "after Peeks were spoilt", n, all)
	first, _ := n.Peek(1)
	kept, _ := n.Deliver(1)
	spoil(first)
	isPacket(t, "what was delivered, after a Peek of it was spoilt", "2>3:b", kept, true)
	first, _ = n.Peek(0)
	got, _ := n.Deliver(0)
	spoil(got)
	isPacket(t, "a Peek, after what was delivered was spoilt", "1>2:a", first, true)
	isShow(t, "after a Deliver was spoilt", n, "3>1:c 4>5:d 1>9:e")
	isSent(t, n, 2, packet(6, 7, "f"), packet(7, 6, "g"))
	isTrue(t, "Twice(0)", n.Twice(0), true)
	n.Clear(4)
	n.Drop(0)
	isPacket(t, "what was delivered, after other calls", "2>3:b", kept, true)
	isPacket(t, "what was peeked at, after other calls", "1>2:a", first, true)
	isShow(t, "after other calls", n, "1>9:e 6>7:f 7>6:g 3>1:c")
}

// P5.3: neither of the two packets of a Twice turns with the other.
func TestTwiceApart(t *testing.T) {
	for _, order := range [][]int{{0, 0}, {1, 0}} {
		n := New()
		isSent(t, n, 1, packet(1, 2, "abc"))
		isTrue(t, "Twice(0)", n.Twice(0), true)
		for _, k := range []int{0, 1} {
			got, _ := n.Peek(k)
			spoil(got)
			isShow(t, "after a Peek was spoilt", n, "1>2:abc 1>2:abc")
		}
		got, _ := n.Deliver(order[0])
		spoil(got)
		isShow(t, "after one was spoilt", n, "1>2:abc")
		other, ok := n.Deliver(order[1])
		isPacket(t, "the other", "1>2:abc", other, ok)
		spoil(got)
		isPacket(t, "the other, after one was spoilt", "1>2:abc", other, ok)
	}
}

// P5.1 to P5.3: long rows of calls, held against a queue as simple as can be.
func TestAgainstModel(t *testing.T) {
	seed := uint32(1)
	next := func(n int) int {
		seed = 1664525*seed + 1013904223
		return int(seed>>8) % n
	}
	for run := range 100 {
		n := New()
		var queue []string
		ends := func(s string, node int) bool {
			return strings.HasPrefix(s, fmt.Sprint(node, ">")) || strings.Contains(s, fmt.Sprint(">", node, ":"))
		}
		for step := range 200 {
			k, node := next(len(queue)+3)-1, next(12)-1
			there := k >= 0 && k < len(queue)
			var got, want string
			switch next(8) {
			case 0, 1, 2:
				var p []api.Packet
				sent := 0
				for i := range next(6) {
					one := packet(next(12)-1, next(12)-1, fmt.Sprint(step, "-", i))
					p = append(p, one)
					if len(queue) < 64 && one.From%10 > 0 && one.To%10 > 0 && one.From < 10 && one.To < 10 && one.From != one.To {
						queue = append(queue, text(one))
						sent++
					}
				}
				got, want = fmt.Sprint(n.Send(p...)), fmt.Sprint(sent)
			case 3:
				p, ok := n.Deliver(k)
				got, want = fmt.Sprint(text(p), ok), "0>0:false"
				if there {
					want = queue[k] + "true"
					queue = append(slices.Clone(queue[:k]), queue[k+1:]...)
				}
			case 4:
				got, want = fmt.Sprint(n.Drop(k)), fmt.Sprint(there)
				if there {
					queue = append(slices.Clone(queue[:k]), queue[k+1:]...)
				}
			case 5, 6:
				got, want = fmt.Sprint(n.Twice(k)), fmt.Sprint(there && len(queue) < 64)
				if there && len(queue) < 64 {
					queue = append(queue, queue[k])
				}
			case 7:
				var left []string
				for _, s := range queue {
					if !ends(s, node) {
						left = append(left, s)
					}
				}
				if next(4) > 0 { // rarely, so that the queue fills up
					continue
				}
				got, want = fmt.Sprint(n.Clear(node)), fmt.Sprint(len(queue)-len(left))
				queue = left
			}
			if whole := strings.Join(queue, " "); got != want || show(n) != whole || n.Len() != len(queue) {
				t.Fatalf("run %d, step %d: %s, %s; not %s, %s", run, step, got, show(n), want, whole)
			}
		}
	}
}
