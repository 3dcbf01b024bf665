package direct

import (
	"fmt"
	"math/rand"
	"slices"
	"strings"
	"testing"

	"parapet/api"
	"parapet/csp"
)

// checkName is that a directive with this name decides, or none, if it is empty.
func checkName(t *testing.T, l []api.Directive, dest, name string) {
	t.Helper()
	if got, ok := Decide(l, dest); got.Name != name || ok != (name != "") {
		t.Errorf("Decide(%.300q, %.100q) = %.300q, %v, not %q", l, dest, got, ok, name)
	}
	checkDecide(t, l, dest)
}

// P16.2: the chapter's example.
func TestDecide(t *testing.T) {
	l := csp.Parse("default-src d; script-src s; child-src c")
	for _, c := range []struct{ dest, name, source string }{
		{"worker", "child-src", "c"},
		{"sharedworker", "child-src", "c"},
		{"serviceworker", "child-src", "c"},
		{"frame", "child-src", "c"},
		{"iframe", "child-src", "c"},
		{"style", "default-src", "d"},
		{"image", "default-src", "d"},
		{"", "default-src", "d"},
		{"script", "script-src", "s"},
	} {
		if got, ok := Decide(l, c.dest); !ok || !equal(got, d(c.name, c.source)) {
			t.Errorf("%q is decided by %q, %v", c.dest, got, ok)
		}
		checkName(t, l, c.dest, c.name)
	}
	for _, dest := range []string{"document", "Script", "x"} {
		if got, ok := Decide(l, dest); ok || got.Name != "" || len(got.Sources) != 0 {
			t.Errorf("%q is decided by %q, %v", dest, got, ok)
		}
		checkName(t, l, dest, "")
	}
}

// P16.2: where there are no directives, or none that apply, none decides, and
// nothing else is returned.
func TestDecideNone(t *testing.T) {
	for _, dest := range append(destinations(), strange()[:100]...) {
		checkName(t, nil, dest, "")
		checkName(t, []api.Directive{}, dest, "")
		checkName(t, []api.Directive{d("")}, dest, "")
		checkName(t, []api.Directive{d("", "*")}, dest, "")
		var l []api.Directive
		for _, name := range foreign(dest) {
			checkName(t, []api.Directive{d(name, "*")}, dest, "")
			l = append(l, d(name, "a", "b"))
		}
		checkName(t, l, dest, "")
		checkName(t, append(l, l...), dest, "")
	}
}

// P16.2: each name decides for just those destinations to which it applies.
func TestDecideAlone(t *testing.T) {
	for _, dest := range destinations() {
		for _, name := range append(named(), unknown()...) {
			want := ""
			if slices.Contains(isChain(dest), name) {
				want = name
			}
			for _, sources := range [][]string{nil, {}, {"*"}, {"'none'"}, {"", "a", "a", "\x00"}} {
				checkName(t, []api.Directive{d(name, sources...)}, dest, want)
			}
		}
	}
}

// P16.2: a name is equal to one of the chain's, bytewise. (Only by hand is there
// one with great letters or with a blank.)
func TestDecideBytes(t *testing.T) {
	for _, x := range table() {
		for _, name := range x.names {
			for _, s := range altered(name) {
				if slices.Contains(x.names, s) {
					continue
				}
				if got, ok := Decide([]api.Directive{d(s, "*")}, x.dest); ok || got.Name != "" || len(got.Sources) != 0 {
					t.Errorf("%q is decided by %q", x.dest, s)
				}
			}
			for _, s := range []string{strings.ToUpper(name), name + " ", " " + name, name + "-"} {
				checkName(t, []api.Directive{d(s, "*")}, x.dest, "")
				checkName(t, []api.Directive{d(s, "*"), d(name, "a")}, x.dest, name)
				checkName(t, []api.Directive{d(name, "a"), d(s, "*")}, x.dest, name)
			}
		}
	}
}

// P16.2: of several names the nearest decides, in whichever order the directives
// stand, and whatever stands between them.
func TestDecideOrders(t *testing.T) {
	for _, x := range table() {
		some(x.names, func(chosen []string) {
			want := ""
			if len(chosen) > 0 {
				want = chosen[0]
			}
			orders(chosen, func(order []string) {
				var l, mixed []api.Directive
				for i, name := range order {
					l = append(l, d(name, "of "+name))
					mixed = append(mixed, d(unknown()[i], "*"), d(name, "of "+name))
				}
				for _, list := range [][]api.Directive{l, mixed, append(mixed, d("x"))} {
					checkName(t, list, x.dest, want)
					if got, ok := Decide(list, x.dest); ok && !equal(got, d(want, "of "+want)) {
						t.Errorf("Decide(%q, %q) = %q", list, x.dest, got)
					}
				}
			})
		})
	}
}

// P16.2: of the directives of one name the first decides.
func TestDecideTwice(t *testing.T) {
	for _, x := range table() {
		for i, name := range x.names {
			first, second, third := d(name, "1"), d(name, "2"), d(name)
			for _, l := range [][]api.Directive{
				{first, second},
				{first, second, third},
				{first, third, first},
				{d("x"), first, d("x"), second},
			} {
				checkName(t, l, x.dest, name)
				if got, ok := Decide(l, x.dest); !ok || !equal(got, first) {
					t.Errorf("Decide(%q, %q) = %q, %v", l, x.dest, got, ok)
				}
			}
			if got, ok := Decide([]api.Directive{third, first}, x.dest); !ok || !equal(got, third) {
				t.Errorf("without sources, the first doesn't decide: %q, %v", got, ok)
			}
			for _, farther := range x.names[i+1:] {
				l := []api.Directive{d(farther, "3"), d(farther, "4"), first, second, d(farther, "5")}
				if got, ok := Decide(l, x.dest); !ok || !equal(got, first) {
					t.Errorf("Decide(%q, %q) = %q, %v", l, x.dest, got, ok)
				}
				checkDecide(t, l, x.dest)
			}
		}
	}
}

// P16.2: all names of all destinations at once, forwards and backwards.
func TestDecideAll(t *testing.T) {
	var l []api.Directive
	for i, name := range append(named(), unknown()...) {
		l = append(l, d(name, fmt.Sprint(i)))
	}
	for range 2 {
		for _, x := range table() {
			checkName(t, l, x.dest, x.names[0])
		}
		checkName(t, l, "document", "")
		slices.Reverse(l)
	}
}

// P16.2: many directives.
func TestDecideMany(t *testing.T) {
	l := make([]api.Directive, 100000)
	for i := range l {
		l[i] = d("x", "*")
	}
	for _, x := range table() {
		for i, name := range x.names {
			many := slices.Clone(l)
			many[len(many)-1-i] = d(name, "a")
			many[0] = d("default-src", "b")
			if got, ok := Decide(many, x.dest); !ok || got.Name != name || name != "default-src" && !equal(got, d(name, "a")) {
				t.Errorf("one of many for %q: %q, %v, not %q", x.dest, got, ok, name)
			}
		}
		if got, ok := Decide(l, x.dest); ok || got.Name != "" || len(got.Sources) != 0 {
			t.Errorf("none of many for %q: %q", x.dest, got)
		}
	}
}

// P16.2: lists by chance.
func TestDecideByChance(t *testing.T) {
	r := rand.New(rand.NewSource(162))
	names, dests := append(named(), "x", "IMG-SRC", ""), destinations()
	found := 0
	for range 50000 {
		l := make([]api.Directive, r.Intn(8))
		for i := range l {
			l[i].Name = names[r.Intn(len(names))]
			for range r.Intn(4) {
				l[i].Sources = append(l[i].Sources, fmt.Sprint(r.Intn(9)))
			}
		}
		dest := dests[r.Intn(len(dests))]
		checkDecide(t, l, dest)
		if _, ok := Decide(l, dest); ok {
			found++
		}
	}
	if found < 5000 || found > 45000 {
		t.Errorf("%d of 50000 are decided", found)
	}
}
