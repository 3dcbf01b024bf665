package direct

import (
	"fmt"
	"math/rand"
	"testing"
)

// checkAnswer is that All returns this for an image of http://b in a document of
// http://a.
func checkAnswer(t *testing.T, policies []string, want bool) {
	t.Helper()
	for _, redirect := range redirects {
		f := fetch{"image", at("http://b"), doc("http://a"), redirect}
		if got := All(policies, f.dest, f.u, f.self, f.redirect); got != want {
			t.Errorf("all of %.300q allow %s: %v", policies, f, got)
		}
		checkAll(t, policies, f)
	}
}

// P16.2: no policies refuse nothing.
func TestAllOfNone(t *testing.T) {
	checkAnswer(t, nil, true)
	checkAnswer(t, []string{}, true)
	for _, dest := range append(destinations(), strange()[:100]...) {
		f := fetch{dest, at("ftp://1.2.3.4:81/x"), doc(""), 0}
		if !All(nil, f.dest, f.u, f.self, f.redirect) || !All([]string{}, f.dest, f.u, f.self, f.redirect) {
			t.Errorf("no policies refuse %s", f)
		}
	}
}

// P16.2: one policy, and a few.
func TestAll(t *testing.T) {
	for _, c := range []struct {
		policies []string
		want     bool
	}{
		{[]string{"img-src *"}, true},
		{[]string{"img-src b"}, true},
		{[]string{"img-src c"}, false},
		{[]string{""}, true},
		{[]string{"", "", ";", "é", " "}, true},
		{[]string{"img-src *", "img-src b", "default-src http:"}, true},
		{[]string{"img-src *", "img-src b", "default-src 'none'"}, false},
		{[]string{"default-src 'none'; img-src *", "img-src b"}, true},
		{[]string{"default-src 'none'", "img-src *"}, false},
		{[]string{"img-src *", "default-src 'none'"}, false},
		{[]string{"img-src *", "img-src 'none'"}, false},
		{[]string{"img-src 'none'", "img-src *"}, false},
		{[]string{"img-src *", "font-src 'none'"}, true},
		{[]string{"font-src 'none'", "script-src"}, true},
		{[]string{"img-src *", "img-src *"}, true},
		{[]string{"img-src 'none'", "img-src 'none'"}, false},
		{[]string{"", "img-src"}, false},
		{[]string{"img-src", ""}, false},
		{[]string{"img-src 'none'; img-src *"}, false},
		{[]string{"img-src *, default-src 'none'"}, false},
		{[]string{"img-src * , img-src 'none'"}, true},
		{[]string{"font-src *, img-src 'none'", "img-src b"}, true},
		{[]string{",", "img-src,'none'", "b, c"}, true},
	} {
		checkAnswer(t, c.policies, c.want)
	}
}

// P16.2: one that refuses counts wherever it stands.
func TestAllPlaces(t *testing.T) {
	allow := []string{"img-src *", "", "default-src b", "font-src 'none'", "default-src 'none'; img-src b", "x, y", "img-src http:"}
	refuse := []string{"img-src 'none'", "default-src", "img-src c; default-src *", "img-src *,", "default-src 'self'", "img-src b:81"}
	for _, n := range []int{1, 2, 3, 5, 17} {
		var l []string
		for i := range n {
			l = append(l, allow[i%len(allow)])
		}
		checkAnswer(t, l, true)
		for i := range n + 1 {
			for _, s := range refuse {
				checkAnswer(t, with(l, i, s), false)
				checkAnswer(t, with(with(l, i, s), 0, s), false)
			}
			for _, s := range allow {
				checkAnswer(t, with(l, i, s), true)
			}
		}
	}
}

// P16.2: each pair of policies, for each destination.
func TestAllPairs(t *testing.T) {
	for _, dest := range destinations() {
		l := []string{"", "x 'none'", "default-src 'self'", "default-src b/x", "default-src"}
		for _, name := range isChain(dest) {
			l = append(l, name+" 'none'", name+" b", name+" *; default-src 'none'")
		}
		for _, s := range []string{"http://a", "http://b/x", "http://b/y"} {
			for _, redirect := range []int{0, 1} {
				f := fetch{dest, at(s), doc("http://a"), redirect}
				for _, a := range l {
					for _, b := range l {
						want := Allows(a, f.dest, f.u, f.self, f.redirect) && Allows(b, f.dest, f.u, f.self, f.redirect)
						if got := All([]string{a, b}, f.dest, f.u, f.self, f.redirect); got != want {
							t.Errorf("%q and %q allow %s: %v", a, b, f, got)
						}
					}
				}
			}
		}
	}
}

// P16.2: many policies.
func TestAllMany(t *testing.T) {
	many := make([]string, 100000)
	for i := range many {
		many[i] = fmt.Sprintf("default-src 'none'; img-src b c%d", i)
	}
	f := fetch{"image", at("http://b"), doc("http://a"), 0}
	if !All(many, f.dest, f.u, f.self, f.redirect) {
		t.Errorf("many policies refuse %s", f)
	}
	for _, i := range []int{0, 1, len(many) / 2, len(many) - 1} {
		was := many[i]
		many[i] = "img-src c"
		if All(many, f.dest, f.u, f.self, f.redirect) {
			t.Errorf("policy %d of many doesn't count", i)
		}
		many[i] = was
	}
}

// P16.2: policies by chance.
func TestAllByChance(t *testing.T) {
	c := chance{rand.New(rand.NewSource(164))}
	yes := 0
	for range 30000 {
		f := c.fetch()
		policies := make([]string, c.Intn(5))
		for i := range policies {
			policies[i] = c.policy(f.dest)
		}
		checkAll(t, policies, f)
		if All(policies, f.dest, f.u, f.self, f.redirect) {
			yes++
		}
	}
	if yes < 3000 || yes > 27000 {
		t.Errorf("%d of 30000 are allowed", yes)
	}
}
