package direct

import (
	"fmt"
	"slices"
	"testing"
)

// P16.1: each destination of the table.
func TestChain(t *testing.T) {
	for _, x := range table() {
		if got := Chain(x.dest); !slices.Equal(got, x.names) {
			t.Errorf("Chain(%q) = %q, not %q", x.dest, got, x.names)
		}
		checkChain(t, x.dest)
	}
}

// P16.1: no names apply to any other text.
func TestChainOfOthers(t *testing.T) {
	l := strange()
	if len(l) < 10000 {
		t.Errorf("only %d destinations are strange", len(l))
	}
	for _, dest := range l {
		if got := Chain(dest); len(got) != 0 {
			t.Errorf("Chain(%.100q) = %q", dest, got)
		}
		checkChain(t, dest)
	}
}

// P16.1: no names apply to any text of one or two bytes.
func TestChainOfShort(t *testing.T) {
	for a := range 256 {
		checkChain(t, single(a))
		for b := range 256 {
			checkChain(t, single(a)+single(b))
		}
	}
}

// P16.1: what one caller writes into the names no other sees, whatever the
// destinations are of which they asked.
func TestChainIsNew(t *testing.T) {
	dests := append(destinations(), destinations()...)
	mark := func(i int) string { return fmt.Sprint("of ", i) }
	var lists [][]string
	for i, dest := range dests {
		l := Chain(dest)
		spoil(l, mark(i))
		lists = append(lists, l)
	}
	for i, l := range lists {
		for _, s := range l[:cap(l)] {
			if s != mark(i) {
				t.Errorf("the names for %q share memory with those %s", dests[i], s)
				break
			}
		}
		checkChain(t, dests[i])
	}
	for _, dest := range dests {
		l := append(Chain(dest), "x", "y")
		l[0] = "spoilt"
		checkChain(t, dest)
	}
}
