package direct

import (
	"math/rand"
	"strings"
	"testing"

	"parapet/api"
)

// row is a policy, a fetch, and whether the policy allows it.
type row struct {
	policy, dest, u, self string
	want                  bool
}

// checkRows holds Allows against rows which no number of redirects decides.
func checkRows(t *testing.T, rows []row) {
	t.Helper()
	for _, c := range rows {
		for _, redirect := range redirects {
			f := fetch{c.dest, at(c.u), doc(c.self), redirect}
			if got := Allows(c.policy, f.dest, f.u, f.self, f.redirect); got != c.want {
				t.Errorf("%q allows %s: %v", c.policy, f, got)
			}
			checkAllows(t, c.policy, f)
		}
	}
}

// P16.2: the chapter's examples.
func TestAllows(t *testing.T) {
	const p = "default-src 'none'; img-src *"
	checkRows(t, []row{
		{p, "image", "http://b", "http://a", true},
		{p, "image", "https://b:81/x?y", "http://a", true},
		{p, "image", "http://a", "http://a", true},
		{p, "script", "http://b", "http://a", false},
		{p, "script", "http://a", "http://a", false},
		{p, "", "http://a", "http://a", false},
		{p, "document", "http://b", "http://a", true},
	})
}

// P16.2: policies in which none of the destination's directives stands allow
// everything.
func TestAllowsWithout(t *testing.T) {
	for _, dest := range destinations() {
		for _, policy := range []string{"", ";", ";;;", " ", "\t\n\f\r ", "é", "default-src é 'none'", "é default-src 'none'", ",", "x", "x 'none'", "x *;y 'none'", "default-src: 'none'", "default-src,'none'", "'none'", "'none' default-src", "* 'none'", "\vdefault-src 'none'", "\x00default-src 'none'"} {
			checkRows(t, []row{
				{policy, dest, "http://b", "http://a", true},
				{policy, dest, "ftp://1.2.3.4:81/x", "", true},
			})
		}
		for _, name := range foreign(dest) {
			for _, sources := range []string{"", " 'none'", " 'unsafe-inline'", " b", " *"} {
				checkRows(t, []row{{name + sources, dest, "http://c", "http://a", true}})
			}
		}
		var l []string
		for _, name := range foreign(dest) {
			l = append(l, name+" 'none'")
		}
		checkRows(t, []row{{strings.Join(l, "; "), dest, "http://c", "http://a", true}})
	}
}

// P16.2: of a destination without names, nothing is refused.
func TestAllowsStrange(t *testing.T) {
	var l []string
	for _, name := range named() {
		l = append(l, name+" 'none'")
	}
	policy, f := strings.Join(l, ";"), fetch{"", at("http://b"), doc("http://a"), 0}
	for _, f.dest = range strange() {
		if !Allows(policy, f.dest, f.u, f.self, f.redirect) || !All([]string{policy, policy}, f.dest, f.u, f.self, f.redirect) {
			t.Errorf("refused: %s", f)
		}
	}
	for _, x := range table() {
		f.dest = x.dest
		if Allows(policy, f.dest, f.u, f.self, f.redirect) || All([]string{policy}, f.dest, f.u, f.self, f.redirect) {
			t.Errorf("allowed: %s", f)
		}
	}
}

// P16.2: each name of a chain alone, with sources of each kind.
func TestAllowsAlone(t *testing.T) {
	for _, x := range table() {
		for _, name := range x.names {
			for _, c := range []struct {
				sources, u, self string
				want             bool
			}{
				{"", "http://a", "http://a", false},
				{" ", "http://a", "http://a", false},
				{" 'none'", "http://a", "http://a", false},
				{" 'NONE'", "http://a", "http://a", false},
				{" none", "http://none", "http://a", true},
				{" 'unsafe-inline' 'unsafe-eval' 'strict-dynamic' 'nonce-x'", "http://a", "http://a", false},
				{" 'none' *", "http://a", "http://a", true},
				{" * 'none'", "http://a", "http://a", true},
				{" *", "http://b:81/x", "http://a", true},
				{" *", "wss://b", "", true},
				{" *", "ftp://b", "http://a", false},
				{" *", "ftp://b", "ftp://a", true},
				{" *", "ftp://b", "", false},
				{" 'self'", "http://a/x", "http://a", true},
				{" 'self'", "https://a/x", "http://a", true},
				{" 'self'", "http://a/x", "https://a", false},
				{" 'self'", "http://b/x", "http://a", false},
				{" 'self'", "http://a:81", "http://a", false},
				{" 'self'", "http://a:81", "http://a:81", true},
				{" 'self'", "http://a", "", false},
				{" 'SELF' b", "http://a", "http://a", true},
				{" 'self' b", "http://b", "http://a", true},
				{" 'self' b", "http://c", "http://a", false},
				{" b", "http://b", "http://a", true},
				{" b", "http://b", "https://a", false},
				{" b", "http://b", "", true},
				{" B", "https://b", "http://a", true},
				{" b:81", "http://b", "http://a", false},
				{" *.b", "http://x.b", "http://a", true},
				{" *.b", "http://b", "http://a", false},
				{" http:", "https://x", "http://a", true},
				{" https:", "http://x", "http://a", false},
				{" https: a", "http://x", "http://a", false},
				{" a..b a/?", "http://a", "http://a", false},
				{"\tx\n'self'\f\ry ", "http://a", "http://a", true},
			} {
				for _, form := range []string{name, strings.ToUpper(name), " \n" + name, ";;" + name} {
					checkRows(t, []row{{form + c.sources, x.dest, c.u, c.self, c.want}})
				}
			}
		}
	}
}

// P16.2: paths count only where there was no redirect.
func TestAllowsRedirects(t *testing.T) {
	for _, x := range table() {
		for _, redirect := range redirects {
			for _, c := range []struct {
				sources, u string
				want       bool
			}{
				{"b/x", "http://b/x", true},
				{"b/x", "http://b/y", redirect != 0},
				{"b/x", "http://b/x/y", redirect != 0},
				{"b/x/", "http://b/x/y", true},
				{"b/x/", "http://b/x", redirect != 0},
				{"b/x b/y", "http://b/y", true},
				{"b/x b/y", "http://b/z", redirect != 0},
				{"b/x", "http://c/x", false},
				{"b/x c", "http://c/y", true},
				{"b:81/x", "http://b/x", false},
				{"https://b/x", "http://b/x", false},
				{"'none'", "http://b/x", false},
				{"", "http://b/x", false},
				{"*", "http://b/x", true},
			} {
				for _, name := range x.names {
					f := fetch{x.dest, at(c.u), doc("http://a"), redirect}
					policy := name + " " + c.sources
					if got := Allows(policy, f.dest, f.u, f.self, f.redirect); got != c.want {
						t.Errorf("%q allows %s: %v", policy, f, got)
					}
					checkAllows(t, policy, f)
				}
			}
		}
	}
}

// P16.2: the nearer directive decides alone, wherever it stands, whether it
// allows what the farther one refuses or the other way round.
func TestAllowsNearer(t *testing.T) {
	for _, x := range table() {
		for i, near := range x.names {
			for _, far := range x.names[i+1:] {
				for _, c := range []struct {
					near, far string
					want      bool
				}{
					{" *", " 'none'", true},
					{" b", " c", true},
					{" b", "", true},
					{" 'none'", " *", false},
					{" c", " b", false},
					{"", " *", false},
					{" 'unsafe-inline'", " *", false},
					{" *", " *", true},
					{"", "", false},
				} {
					checkRows(t, []row{
						{near + c.near + ";" + far + c.far, x.dest, "http://b", "http://a", c.want},
						{far + c.far + ";" + near + c.near, x.dest, "http://b", "http://a", c.want},
						{"x 'none'; " + far + c.far + "; y *; " + strings.ToUpper(near) + c.near + "; z", x.dest, "http://b", "http://a", c.want},
					})
				}
			}
		}
	}
}

// P16.2: each choice of a chain's names in each order: only the nearest allows,
// and then only the nearest refuses.
func TestAllowsOrders(t *testing.T) {
	for _, x := range table() {
		some(x.names, func(chosen []string) {
			if len(chosen) == 0 {
				return
			}
			orders(chosen, func(order []string) {
				var only, butOne []string
				for _, name := range order {
					if name == chosen[0] {
						only, butOne = append(only, name+" b"), append(butOne, name+" 'none'")
					} else {
						only, butOne = append(only, name+" 'none'"), append(butOne, name+" b")
					}
				}
				checkRows(t, []row{
					{strings.Join(only, "; "), x.dest, "http://b", "http://a", true},
					{strings.Join(butOne, "; "), x.dest, "http://b", "http://a", false},
				})
			})
		})
	}
}

// P16.2: of two directives of one name the first decides, in whatever letters it
// is written; one that is not ASCII is as if it weren't there.
func TestAllowsTwice(t *testing.T) {
	for _, x := range table() {
		for _, name := range x.names {
			great := strings.ToUpper(name)
			checkRows(t, []row{
				{name + " *;" + name + " 'none'", x.dest, "http://b", "http://a", true},
				{name + " 'none';" + name + " *", x.dest, "http://b", "http://a", false},
				{great + " *;" + name + " 'none'", x.dest, "http://b", "http://a", true},
				{name + " 'none';" + great + " *", x.dest, "http://b", "http://a", false},
				{name + ";" + name + " *", x.dest, "http://b", "http://a", false},
				{name + " * é;" + name + " 'none'", x.dest, "http://b", "http://a", false},
				{name + " 'none' é;" + name + " *", x.dest, "http://b", "http://a", true},
				{name + " 'none' é", x.dest, "http://b", "http://a", true},
			})
		}
	}
}

// P16.2: a comma divides nothing: it belongs to the word in which it stands.
func TestAllowsCommas(t *testing.T) {
	checkRows(t, []row{
		{"img-src b, c", "image", "http://b", "http://a", false},
		{"img-src b, c", "image", "http://c", "http://a", true},
		{"img-src b,c", "image", "http://b", "http://a", false},
		{"img-src b , c", "image", "http://b", "http://a", true},
		{"img-src 'none', img-src *", "image", "http://b", "http://a", true},
		{"img-src 'none',img-src *", "image", "http://b", "http://a", true},
		{"default-src 'none', img-src *", "image", "http://b", "http://a", true},
		{"default-src 'none', img-src *", "font", "http://b", "http://a", true},
		{"img-src *, font-src 'none'", "font", "http://b", "http://a", true},
		{"img-src *, font-src 'none'", "image", "http://b", "http://a", false},
		{"img-src,'none'", "image", "http://b", "http://a", true},
		{"img-src, 'none'", "image", "http://b", "http://a", true},
		{",img-src 'none'", "image", "http://b", "http://a", true},
		{", img-src 'none'", "image", "http://b", "http://a", true},
		{"img-src *,", "image", "http://b", "http://a", false},
	})
}

// P16.2: long policies, and ones of many directives.
func TestAllowsLong(t *testing.T) {
	f := fetch{"worker", at("http://b"), doc("http://a"), 0}
	many := strings.Repeat("x *;", 100000)
	none := "worker-src" + strings.Repeat(" 'none'", 100000)
	for _, c := range []struct {
		policy string
		want   bool
	}{
		{many, true},
		{many + "default-src 'none'", false},
		{"default-src 'none';" + many, false},
		{"default-src 'none';" + many + "script-src *", true},
		{"default-src 'none';" + many + "script-src *;" + many + "child-src 'none'", false},
		{none, false},
		{none + " b", true},
		{none + ";" + many + "default-src *", false},
	} {
		if got := Allows(c.policy, f.dest, f.u, f.self, f.redirect); got != c.want {
			t.Errorf("%.100q.. of %d bytes allows %s: %v", c.policy, len(c.policy), f, got)
		}
		checkAllows(t, c.policy, f)
	}
}

// P16.2: what has nothing in it.
func TestAllowsZero(t *testing.T) {
	if !Allows("", "", api.URL{}, api.Origin{}, 0) || !All(nil, "", api.URL{}, api.Origin{}, 0) || !All([]string{""}, "", api.URL{}, api.Origin{}, 0) {
		t.Error("nothing refuses")
	}
	for _, policy := range []string{"connect-src", "connect-src 'self'", "default-src 'none'", "default-src 'self' a http: x://a"} {
		if Allows(policy, "", api.URL{}, api.Origin{}, 0) {
			t.Errorf("%q allows nothing's URL", policy)
		}
		checkAllows(t, policy, fetch{})
	}
}

// urls and docs are texts for fetches by chance.
var (
	urls = []string{"http://a", "http://a/x", "https://a/x/y", "http://b", "http://b/x", "https://b/y", "ws://a", "wss://b:81", "ftp://a", "http://x.a", "http://1.2.3.4", "http://a:81"}
	docs = []string{"", "http://a", "https://a", "http://b", "ftp://a", "http://a:81"}
)

// chance makes policies and fetches.
type chance struct{ *rand.Rand }

func (c chance) of(l ...string) string { return l[c.Intn(len(l))] }

func (c chance) fetch() fetch {
	return fetch{c.of(destinations()...), at(c.of(urls...)), doc(c.of(docs...)), redirects[c.Intn(len(redirects))]}
}

// directive makes one with this name.
func (c chance) directive(name string) string {
	s := c.of("", "", " ", "\n") + name
	for range c.Intn(4) {
		s += " " + c.of("a", "b", "*", "'self'", "'none'", "https:", "*.a", "a/x", "b/x/", "b:*", "'unsafe-inline'", "a,", "A")
	}
	return s
}

// policy makes one, mostly of names that apply to the destination.
func (c chance) policy(dest string) string {
	names := append(isChain(dest), isChain(dest)...)
	names = append(append(names, "x", "DEFAULT-SRC"), named()...)
	var l []string
	for range c.Intn(6) {
		l = append(l, c.directive(c.of(names...)))
	}
	return strings.Join(l, c.of(";", "; ", ";;"))
}

// P16.2: policies by chance.
func TestAllowsByChance(t *testing.T) {
	c := chance{rand.New(rand.NewSource(163))}
	yes := 0
	for range 50000 {
		f := c.fetch()
		policy := c.policy(f.dest)
		checkAllows(t, policy, f)
		if Allows(policy, f.dest, f.u, f.self, f.redirect) {
			yes++
		}
	}
	if yes < 5000 || yes > 45000 {
		t.Errorf("%d of 50000 are allowed", yes)
	}
}
