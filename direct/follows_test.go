package direct

import (
	"math/rand"
	"slices"
	"strings"
	"testing"

	"parapet/api"
	"parapet/ascii"
	"parapet/csp"
)

// checkSame is P16.3: with this directive at any place, a policy answers as it
// did without.
func checkSame(t *testing.T, policy, added string, f fetch) {
	t.Helper()
	parts := ascii.Split(policy, ';')
	want := Allows(policy, f.dest, f.u, f.self, f.redirect)
	x, found := Decide(csp.Parse(policy), f.dest)
	for place := range len(parts) + 1 {
		more := strings.Join(with(parts, place, added), ";")
		if got := Allows(more, f.dest, f.u, f.self, f.redirect); got != want {
			t.Errorf("%q allows %s: %v; %q: %v", policy, f, want, more, got)
		}
		if got, ok := Decide(csp.Parse(more), f.dest); ok != found || !equal(got, x) {
			t.Errorf("%q of %q: %q, %v; of %q: %q, %v", f.dest, policy, x, found, more, got, ok)
		}
		if got := All([]string{policy, more}, f.dest, f.u, f.self, f.redirect); got != want {
			t.Errorf("%q and %q allow %s: %v", policy, more, f, got)
		}
	}
}

// P16.3: each name that isn't in the chain, ahead of, behind and between the
// directives of a policy, for each destination.
func TestFollows(t *testing.T) {
	for _, dest := range destinations() {
		policies := []string{"", "x *", "default-src 'none'", "default-src b", "default-src 'none'; x; y *"}
		for _, name := range isChain(dest) {
			policies = append(policies, name+" b", name+" 'none'; default-src b", "default-src 'none'; x *; "+name+" *")
		}
		var all []string
		for _, name := range isChain(dest) {
			all = append(all, name+" b")
		}
		policies = append(policies, strings.Join(all, "; "))
		for _, name := range foreign(dest) {
			for _, sources := range []string{"", " 'none'", " *", " b"} {
				for _, policy := range policies {
					checkSame(t, policy, name+sources, fetch{dest, at("http://b"), doc("http://a"), 0})
				}
			}
		}
	}
}

// P16.3: all such names at once, ahead of a policy and behind it.
func TestFollowsAll(t *testing.T) {
	for _, dest := range destinations() {
		for _, sources := range []string{"", " 'none'", " *"} {
			added := strings.Join(foreign(dest), sources+";") + sources
			for _, policy := range append(named(), "", "default-src *; script-src 'none'", "child-src b; default-src 'none'") {
				checkSame(t, policy, added, fetch{dest, at("http://b"), doc("http://a"), 0})
			}
		}
	}
}

// P16.3: the same of lists of directives, which may hold names with great
// letters too.
func TestFollowsDecide(t *testing.T) {
	r := rand.New(rand.NewSource(165))
	for _, dest := range destinations() {
		names := foreign(dest)
		for _, name := range isChain(dest) {
			names = append(names, strings.ToUpper(name), name+" ", name+";")
		}
		for _, name := range append(names, "") {
			var l []api.Directive
			for _, s := range isChain(dest) {
				if r.Intn(2) == 0 {
					l = append(l, d(s, "of "+s))
				}
			}
			r.Shuffle(len(l), func(i, j int) { l[i], l[j] = l[j], l[i] })
			want, found := Decide(l, dest)
			for place := range len(l) + 1 {
				more := with(l, place, d(name, "a"))
				if got, ok := Decide(more, dest); ok != found || !equal(got, want) {
					t.Errorf("%q of %q: %q, %v, not %q, %v", dest, more, got, ok, want, found)
				}
				checkDecide(t, more, dest)
			}
		}
	}
}

// P16.3: a directive of the chain does change the result: it is not for want of
// a difference that the others don't.
func TestFollowsNot(t *testing.T) {
	for _, x := range table() {
		for i, name := range x.names {
			u, self := at("http://b"), doc("http://a")
			if Allows(name+" 'none'", x.dest, u, self, 0) || !Allows("", x.dest, u, self, 0) {
				t.Errorf("%q changes nothing for %q", name, x.dest)
			}
			for _, far := range x.names[i+1:] {
				if Allows(far+" *;"+name, x.dest, u, self, 0) || !Allows(far+";"+name+" *", x.dest, u, self, 0) {
					t.Errorf("%q changes nothing for %q beside %q", name, x.dest, far)
				}
			}
		}
	}
}

// P16.3: policies by chance.
func TestFollowsByChance(t *testing.T) {
	c := chance{rand.New(rand.NewSource(166))}
	for range 5000 {
		f := c.fetch()
		added := c.directive(c.of(foreign(f.dest)...))
		if words := ascii.Blanks(added); slices.Contains(isChain(f.dest), words[0]) {
			t.Fatalf("%q is of the chain for %q", added, f.dest)
		}
		checkSame(t, c.policy(f.dest), added, f)
	}
}
