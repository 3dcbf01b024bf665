package source

import (
	"math"
	"math/rand"
	"testing"

	"parapet/api"
)

// redirects are numbers of redirects; of 0 alone paths count.
var redirects = []int{0, 1, 2, 20, -1, math.MaxInt, math.MinInt}

// fit is an expression and whether it matches a URL for a document's origin.
type fit struct {
	s, u, self string
	want       bool
}

// checkFits holds Match, with and without redirects, and List against rows
// which none of the paths decides.
func checkFits(t *testing.T, rows []fit) {
	t.Helper()
	for _, c := range rows {
		e, u, self := Parse(c.s), at(c.u), doc(c.self)
		for _, redirect := range redirects {
			if got := Match(e, u, self, redirect); got != c.want {
				t.Errorf("%q matches %q for %q after %d redirects: %v", c.s, c.u, c.self, redirect, got)
			}
			checkMatch(t, e, u, self, redirect)
			if got := List([]string{c.s}, u, self, redirect); got != c.want {
				t.Errorf("List of %q matches %q for %q after %d redirects: %v", c.s, c.u, c.self, redirect, got)
			}
		}
		checkList(t, []string{c.s}, u, self, 0)
	}
}

// P15.4: the chapter's examples.
func TestMatch(t *testing.T) {
	checkFits(t, []fit{
		{"a", "http://a", "http://b", true},
		{"a", "http://a", "https://b", false},
	})
	e := Parse("https://*.a.b:*/c/")
	if !Match(e, at("https://x.a.b:9/c/d"), api.Origin{}, 0) || Match(e, at("https://a.b/c/d"), api.Origin{}, 0) {
		t.Errorf("%q isn't matched as it should be", show(e))
	}
}

// P15.4: the star matches by the scheme alone.
func TestMatchStar(t *testing.T) {
	checkFits(t, []fit{
		{"*", "http://a", "", true},
		{"*", "https://a:1/b?c#d", "", true},
		{"*", "ws://1.2.3.4", "", true},
		{"*", "wss://a", "", true},
		{"*", "ftp://a", "", false},
		{"*", "ftp://a", "ftp://b", true},
		{"*", "ftp://a", "ftp://b:81", true},
		{"*", "ftp://a", "http://a", false},
		{"*", "ftp://a", "https://a", false},
		{"*", "http://a", "ftp://a", true},
		{"*", "ws://a", "https://b", true},
		{"*", "http://a", "https://b", true},
	})
	for _, scheme := range []string{"", "x", "data", "HTTP", "https:", "httpss", "w", "wsss", "h", "\x00"} {
		u := api.URL{Scheme: scheme, Host: "a", Port: -1}
		if got := Match(Expr{Kind: 1}, u, api.Origin{Scheme: scheme, Host: "b", Port: 7}, 0); !got {
			t.Errorf("* doesn't match %q for a document with this scheme", scheme)
		}
		if got := Match(Expr{Kind: 1}, u, api.Origin{Scheme: "y", Host: "a"}, 0); got {
			t.Errorf("* matches %q for a document with another scheme", scheme)
		}
	}
}

// P15.4: 'self', for each pair of schemes, with the same hosts and ports and
// with others.
func TestMatchSelf(t *testing.T) {
	l := []string{"http", "https", "ws", "wss", "ftp"}
	for i, want := range []struct{ usual, equal string }{ // a row for each scheme of the document
		{"11110", "11110"}, // http
		{"01010", "01010"}, // https
		{"01110", "01110"}, // ws
		{"01010", "01010"}, // wss
		{"01011", "01011"}, // ftp
	} {
		for j, scheme := range l {
			for _, s := range []string{"'self'", "'SELF'", "'Self'"} {
				usual, equal := want.usual[j] == '1', want.equal[j] == '1'
				checkFits(t, []fit{
					{s, scheme + "://a", l[i] + "://a", usual},
					{s, scheme + "://u:p@A/x?y#z", l[i] + "://a", usual},
					{s, scheme + "://a:81", l[i] + "://a:81", equal},
					{s, scheme + "://a:0", l[i] + "://a:0", equal},
					{s, scheme + "://1.2.3.4:81/x", l[i] + "://1.2.3.4:81", equal},
					{s, scheme + "://a:82", l[i] + "://a:81", false},
					{s, scheme + "://a:81", l[i] + "://a", false},
					{s, scheme + "://a", l[i] + "://a:81", false},
					{s, scheme + "://b", l[i] + "://a", false},
					{s, scheme + "://b:81", l[i] + "://a:81", false},
					{s, scheme + "://x.a", l[i] + "://a", false},
					{s, scheme + "://a", l[i] + "://x.a", false},
					{s, scheme + "://a.", l[i] + "://a", false},
					{s, scheme + "://a", "", false},
				})
			}
		}
	}
	checkFits(t, []fit{
		{"'self'", "https://a:80", "http://a", true}, // equal ports
		{"'self'", "https://a", "http://a:443", true},
		{"'self'", "https://a:80", "http://a:443", false},
		{"'self'", "https://a:443", "http://a:80", true},
		{"'self'", "http://a:443", "https://a", false}, // equal ports, but less secure
		{"'self'", "ws://a:443", "http://a", false},
		{"'self'", "ws://a:443", "http://a:443", true},
		{"'self'", "wss://a:21", "ftp://a", true},
		{"'self'", "wss://a:80", "ftp://a", false},
	})
}

// P15.4: 'self' of origins and URLs that no text is parsed as.
func TestMatchSelfByHand(t *testing.T) {
	for _, c := range []struct {
		u    api.URL
		self api.Origin
		want bool
	}{
		{api.URL{}, api.Origin{}, false},
		{api.URL{Port: -1}, api.Origin{}, false},
		{api.URL{Scheme: "https"}, api.Origin{}, false}, // equal host and port, but the zero Origin
		{api.URL{Scheme: "wss"}, api.Origin{}, false},
		{api.URL{Scheme: "https"}, api.Origin{Scheme: "x"}, true},
		{api.URL{Scheme: "https", Port: 7}, api.Origin{Port: 7}, true},
		{api.URL{Scheme: "https", Port: -1}, api.Origin{Port: 443}, true},
		{api.URL{Scheme: "https", Port: -1}, api.Origin{Port: 80}, false}, // no scheme, no default port
		{api.URL{Scheme: "https", Host: "a", Port: -1}, api.Origin{Scheme: "x", Host: "a", Port: 0}, false},
		{api.URL{Scheme: "https", Host: "a", Port: 0}, api.Origin{Scheme: "x", Host: "a", Port: 0}, true},
		{api.URL{Scheme: "https", Host: "a", Port: -1}, api.Origin{Scheme: "HTTP", Host: "a", Port: 80}, false},
		{api.URL{Scheme: "https", Host: "a", Port: -1}, api.Origin{Scheme: "http", Host: "a", Port: -1}, false},
		{api.URL{Scheme: "https", Host: "a", Port: -2}, api.Origin{Scheme: "http", Host: "a", Port: -2}, true},
		{api.URL{Scheme: "x", Host: "a", Port: -1}, api.Origin{Scheme: "x", Host: "a", Port: 0}, true}, // the same
		{api.URL{Scheme: "x", Host: "a", Port: -1}, api.Origin{Scheme: "x", Host: "a", Port: -1}, false},
		{api.URL{Scheme: "y", Host: "a", Port: 1}, api.Origin{Scheme: "x", Host: "a", Port: 1}, false},
		{api.URL{Scheme: "ws", Host: "a", Port: 1}, api.Origin{Scheme: "x", Host: "a", Port: 1}, false},
		{api.URL{Scheme: "ws", Host: "a", Port: 1}, api.Origin{Scheme: "HTTP", Host: "a", Port: 1}, false},
		{api.URL{Scheme: "WS", Host: "a", Port: 1}, api.Origin{Scheme: "http", Host: "a", Port: 1}, false},
		{api.URL{Scheme: "HTTPS", Host: "a", Port: 1}, api.Origin{Scheme: "http", Host: "a", Port: 1}, false},
		{api.URL{Scheme: "https", Host: "A", Port: 1}, api.Origin{Scheme: "https", Host: "a", Port: 1}, false},
		{api.URL{Scheme: "x", Host: "a"}, api.Origin{Host: "a"}, false},
		{api.URL{Host: "a"}, api.Origin{Host: "a"}, true},
		{api.URL{Port: 1}, api.Origin{Port: 1}, true},
	} {
		for _, redirect := range redirects {
			if got := Match(Expr{Kind: 2}, c.u, c.self, redirect); got != c.want {
				t.Errorf("'self' matches %+v for %+v: %v", c.u, c.self, got)
			}
			checkMatch(t, Expr{Kind: 2}, c.u, c.self, redirect)
		}
	}
}

// P15.4: schemes alone.
func TestMatchScheme(t *testing.T) {
	l := []string{"http", "https", "ws", "wss", "ftp", "x"}
	for i, want := range []string{"11000", "01000", "11110", "01010", "00001", "00000"} {
		for j := range want {
			for _, self := range []string{"", "http://a", "https://b", "ftp://c:81"} {
				for _, rest := range []string{"://a", "://b:81/x?y#z", "://1.2.3.4"} {
					checkFits(t, []fit{{l[i] + ":", l[j] + rest, self, want[j] == '1'}})
				}
			}
		}
	}
}

// P15.4: hosts with and without a scheme, for documents of each.
func TestMatchHost(t *testing.T) {
	l := []string{"http", "https", "ws", "wss", "ftp"}
	for i, want := range []string{"11000", "01000", "11110", "01010", "00001"} {
		for j := range want {
			u := l[j] + "://a"
			checkFits(t, []fit{
				{"a", u, l[i] + "://b", want[j] == '1'},
				{"a", u, l[i] + "://a:81", want[j] == '1'},
				{"a", u, "", true},
				{"*:*", u, l[i] + "://b", want[j] == '1'},
				{l[i] + "://a", u, "", want[j] == '1'},
				{l[i] + "://a", u, l[j] + "://a", want[j] == '1'},
				{l[i] + "://a", u, l[i] + "://a", want[j] == '1'},
				{l[i] + "://a", u, "ftp://x", want[j] == '1'},
				{l[i] + "://b", u, "", false},
				{l[i] + "://*", u, "", want[j] == '1'},
				{l[i] + "://*:*", u + ":81", "", want[j] == '1'},
				{l[i] + "://*", u + ":81", "", false},
			})
		}
	}
	checkFits(t, []fit{
		{"A", "http://a", "", true},
		{"a", "http://A", "", true},
		{"*.a", "http://x.a", "", true},
		{"*.a", "http://a", "", false},
		{"*:*", "http://1.2.3.4:9", "", true},
		{"1.2.3.4", "http://1.2.3.4", "", false},
		{"127.0.0.1", "http://127.1", "", true},
		{"*.0.0.1", "http://127.0.0.1", "", false},
		{"localhost", "http://localhost", "http://localhost", true},
		{"a", "http://a:81", "", false},
		{"a:81", "http://a:81", "", true},
		{"a:0081", "http://a:81", "", true},
		{"a:80", "http://a", "", true},
		{"a:80", "https://a", "", true},
		{"a:443", "http://a", "", false},
		{"a:443", "https://a", "", true},
		{"http://a:80", "https://a", "", true},
		{"http://a", "https://a", "", true},
		{"http://a:80", "https://a:80", "", true},
		{"http://a", "https://a:80", "", false},
		{"a:*", "http://a:9", "", true},
		{"a:65536", "http://a", "", false},
		{"a:99999", "http://a", "", false},
		{"x://a", "http://a", "", false},
		{"'none'", "http://a", "http://a", false},
		{"", "http://a", "http://a", false},
		{"a..b", "http://a..b", "http://a..b", false},
	})
}

// P15.4: paths count, but not after a redirect.
func TestMatchPath(t *testing.T) {
	for _, c := range []struct {
		s, u string
		want bool
	}{
		{"a", "http://a/x", true},
		{"a/", "http://a", true},
		{"a/", "http://a/x/y", true},
		{"a/x", "http://a/x", true},
		{"a/x", "http://a/y", false},
		{"a/x", "http://a", false},
		{"a/x", "http://a/x/", false},
		{"a/x/", "http://a/x", false},
		{"a/x/", "http://a/x/y", true},
		{"a/x", "http://a/x?y#z", true},
		{"a/x", "http://a/?/x", false},
		{"a/%78", "http://a/x", true},
		{"a/X", "http://a/x", false},
		{"a/a%20b", "http://a/a b", true},
		{"*:*/x", "http://b:81/x", true},
		{"*:*/x", "http://b:81/y", false},
		{"http://*.a:80/x/", "https://b.a/x/y", true},
		{"http://*.a:80/x/", "https://b.a/y/x", false},
	} {
		u := at(c.u)
		for _, self := range []api.Origin{{}, doc("http://a"), doc("http://b")} {
			for _, redirect := range redirects {
				if got := Match(Parse(c.s), u, self, redirect); got != (c.want || redirect != 0) {
					t.Errorf("%q matches %q after %d redirects: %v", c.s, c.u, redirect, got)
				}
				if got := List([]string{c.s, "b..a"}, u, self, redirect); got != (c.want || redirect != 0) {
					t.Errorf("List of %q matches %q after %d redirects: %v", c.s, c.u, redirect, got)
				}
				checkMatch(t, Parse(c.s), u, self, redirect)
			}
		}
		for _, other := range []string{"http://c/x", "ftp://a/x", "http://a:82/x"} { // a redirect excuses nothing else
			if c.s[0] != '*' && Match(Parse(c.s), at(other), doc("http://a"), 1) {
				t.Errorf("%q matches %q after a redirect", c.s, other)
			}
		}
	}
}

// P15.4: numbers that are no Kind, and fields that don't count for a Kind.
func TestMatchKinds(t *testing.T) {
	u, self := at("http://a/x"), doc("http://a")
	full := Expr{Scheme: "http", Host: "a", Port: "80", Path: "/x"}
	for _, kind := range []int{0, 5, 6, 7, -1, -2, -4, 8, 256, 257, 260, 1 << 16, 1<<16 + 4, 1<<32 + 1, 1<<32 + 4, math.MaxInt, math.MinInt, math.MinInt + 4} {
		for _, e := range []Expr{{}, full, {Scheme: "http"}, {Host: "*", Port: "*"}} {
			e.Kind = kind
			for _, redirect := range redirects {
				if Match(e, u, self, redirect) {
					t.Errorf("%q matches", show(e))
				}
				checkMatch(t, e, u, self, redirect)
			}
		}
	}
	for _, c := range []struct {
		e    Expr
		want bool
	}{
		{Expr{1, "ftp", "b", "81", "/y"}, true},
		{Expr{2, "ftp", "b", "81", "/y"}, true},
		{Expr{3, "http", "b", "81", "/y"}, true},
		{Expr{3, "ftp", "a", "80", "/x"}, false},
		{Expr{3, "", "a", "80", "/x"}, false},
		{Expr{4, "http", "a", "80", "/x"}, true},
		{Expr{4, "", "a", "", ""}, true},
		{Expr{4, "ftp", "a", "80", "/x"}, false},
		{Expr{4, "http", "b", "80", "/x"}, false},
		{Expr{4, "http", "a", "81", "/x"}, false},
		{Expr{4, "http", "a", "80", "/y"}, false},
		{Expr{4, "HTTP", "a", "80", "/x"}, false}, // by hand: Parse makes small letters
		{Expr{4, "http", "A", "80", "/x"}, false},
		{Expr{4, "http", "", "80", "/x"}, false},
		{Expr{4, "http", "a", "b", "/x"}, false},
		{Expr{4, "http", "*a", "80", "/x"}, false},
		{Expr{4, "http", "a", "80", "x"}, false},
		{Expr{4, "http", "a", "000000000080", "/x"}, true},
	} {
		if got := Match(c.e, u, self, 0); got != c.want {
			t.Errorf("%q matches: %v", show(c.e), got)
		}
		checkMatch(t, c.e, u, self, 0)
	}
}

// exprs are expressions that are read, and some made by hand.
func exprs() []Expr {
	var l []Expr
	for _, s := range sources() {
		l = append(l, Parse(s))
	}
	return append(l, Expr{Kind: 3}, Expr{Kind: 3, Scheme: "HTTP"}, Expr{Kind: 3, Scheme: "x"}, Expr{Kind: 4}, Expr{Kind: 4, Host: "*"}, Expr{Kind: 4, Host: "*."}, Expr{Kind: 4, Host: "*", Port: "x"},
		Expr{Kind: 4, Host: "*", Port: "10000009"}, Expr{Kind: 4, Host: "*", Port: "*", Path: "x"}, Expr{Kind: 4, Scheme: "x", Host: "*", Port: "*"}, Expr{Kind: 6, Host: "*", Port: "*"}, Expr{Kind: -1})
}

// sources are texts of all Kinds.
func sources() []string {
	return []string{"", "*", "'self'", "'SELF'", "'none'", "http:", "https:", "WS:", "wss:", "ftp:", "x:", "a", "A", "*.a", "x.a", "b", "*:*", "*:80", "*:443", "*:21", "*:0", "*/", "*:*/x", "*:*/x/", "a:*", "a:80", "a:443", "a:81", "a:080",
		"a/", "a/x", "a/x/", "a/x/y", "a/%78", "a:*/x", "http://a", "https://a", "ws://a", "wss://a:*", "ftp://a", "http://*", "https://*:*/x/", "x://a", "http://a:443", "https://*.a:80/x", "1.2.3.4", "127.0.0.1", "127.0.0.1:*/x", "*.0.0.1:*", "a..b", "a:x"}
}

// urls are URLs that are parsed, and some made by hand.
func urls() []api.URL {
	var l []api.URL
	for _, scheme := range []string{"http", "https", "ws", "wss", "ftp"} {
		for _, rest := range []string{"a", "a:80", "a:443", "a:81", "a:0", "a/x", "a/x/", "a:81/x/y", "x.a/x", "b", "1.2.3.4/x", "127.0.0.1:80/x"} {
			l = append(l, at(scheme+"://"+rest))
		}
	}
	return append(l, api.URL{}, api.URL{Port: -1}, api.URL{Scheme: "http"}, api.URL{Scheme: "x", Host: "a", Port: -1, Path: "/x"}, api.URL{Scheme: "https", Port: -1}, api.URL{Scheme: "http", Host: "a", Port: 10000009}, api.URL{Scheme: "http", Host: "a", Port: -1}, api.URL{Host: "a", Port: -2, Path: "x"})
}

// docs are origins of documents, the zero one among them.
func docs() []api.Origin {
	l := []api.Origin{{}, {Scheme: "x", Host: "a"}, {Scheme: "x"}, {Host: "a"}, {Port: 80}, {Host: "a", Port: -2}, {Scheme: "http", Host: "a", Port: -1}}
	for _, scheme := range []string{"http", "https", "ws", "wss", "ftp"} {
		for _, rest := range []string{"a", "a:81", "a:443", "a:80", "b", "127.0.0.1"} {
			l = append(l, doc(scheme+"://"+rest))
		}
	}
	return l
}

// P15.4, P15.6: all of them with each other.
func TestMatchAll(t *testing.T) {
	yes, no := 0, 0
	for _, e := range exprs() {
		for _, u := range urls() {
			for _, self := range docs() {
				for _, redirect := range redirects[:2] {
					checkMatch(t, e, u, self, redirect)
				}
				if Match(e, u, self, 0) {
					yes++
				} else {
					no++
				}
			}
		}
	}
	if yes < 10000 || no < 10000 {
		t.Errorf("%d match, %d don't", yes, no)
	}
}

// P15.5: lists.
func TestList(t *testing.T) {
	u, self := at("http://a"), doc("http://a")
	for _, c := range []struct {
		sources []string
		want    bool
	}{
		{nil, false},
		{[]string{}, false},
		{[]string{"b", "a"}, true},
		{[]string{"a", "b"}, true},
		{[]string{"b", "a", "c"}, true},
		{[]string{"a"}, true},
		{[]string{"b"}, false},
		{[]string{"b", "c", "*.a"}, false},
		{[]string{"a", "a"}, true},
		{[]string{""}, false},
		{[]string{"", "a"}, true},
		{[]string{"a", ""}, true},
		{[]string{"a b"}, false},
		{[]string{"b a"}, false},
		{[]string{" a"}, false},
		{[]string{"a,"}, false},
		{[]string{"'none'"}, false},
		{[]string{"'none'", "a"}, true},
		{[]string{"a", "'none'"}, true},
		{[]string{"'none'", "'unsafe-inline'", "'nonce-a'"}, false},
		{[]string{"'self'"}, true},
		{[]string{"'none'", "'Self'"}, true},
		{[]string{"*"}, true},
		{[]string{"b", "*"}, true},
		{[]string{"http:"}, true},
		{[]string{"https:", "ws:"}, true},
		{[]string{"https:", "wss:"}, false},
		{[]string{"a:81", "https://a", "x://a", "b"}, false},
		{[]string{"a/x", "a/y"}, false},
		{[]string{"a/x", "a/"}, true},
	} {
		if got := List(c.sources, u, self, 0); got != c.want {
			t.Errorf("List(%q) = %v", c.sources, got)
		}
		checkList(t, c.sources, u, self, 0)
		checkList(t, c.sources, u, self, 1)
		checkList(t, c.sources, at("https://b:81/x"), api.Origin{}, 0)
	}
}

// P15.5: what matches counts wherever it stands.
func TestListPlaces(t *testing.T) {
	u, self := at("http://a/x"), doc("http://b")
	for _, n := range []int{1, 2, 5, 40} {
		var l []string
		for i := range n {
			l = append(l, []string{"b", "'none'", "https://a", "a..b", "", "'self'", "a/y"}[i%7])
		}
		checkList(t, l, u, self, 0)
		if List(l, u, self, 0) {
			t.Errorf("%q matches", l)
		}
		for i := range n {
			for _, s := range []string{"a", "A/x", "*", "HTTP:", "*:80/"} {
				with := append(append(append([]string{}, l[:i]...), s), l[i:]...)
				checkList(t, with, u, self, 0)
				with = append(append([]string{}, l...), l...)
				with[i] = s
				checkList(t, with, u, self, 0)
				if !List(with, u, self, 0) {
					t.Errorf("%q doesn't match", with)
				}
			}
		}
	}
	many := make([]string, 1<<18)
	for i := range many {
		many[i] = "'none'"
	}
	if List(many, u, self, 0) {
		t.Error("List of many keywords matches")
	}
	many[len(many)-1] = "a"
	if !List(many, u, self, 0) {
		t.Error("the last of many doesn't count")
	}
}

// P15.4 to P15.6: lists by chance.
func TestListByChance(t *testing.T) {
	r := rand.New(rand.NewSource(155))
	of, l, origins := sources(), urls(), docs()
	yes := 0
	for range 50000 {
		some := make([]string, r.Intn(5))
		for i := range some {
			some[i] = of[r.Intn(len(of))]
		}
		u, self, redirect := l[r.Intn(len(l))], origins[r.Intn(len(origins))], redirects[r.Intn(len(redirects))]
		checkList(t, some, u, self, redirect)
		if List(some, u, self, redirect) {
			yes++
		}
	}
	if yes < 1000 || yes > 49000 {
		t.Errorf("%d of 50000 match", yes)
	}
}

// piece is one of them, by chance.
func piece(r *rand.Rand, of ...string) string { return of[r.Intn(len(of))] }

// P15.1, P15.4, P15.6: expressions and URLs by chance, of few pieces, so that
// they often match.
func TestMatchByChance(t *testing.T) {
	r := rand.New(rand.NewSource(154))
	yes := 0
	for range 100000 {
		s := piece(r, "", "", "http://", "https://", "ws://", "wss://", "FTP://") + piece(r, "*", "*.a", "a", "A", "x.a", "127.0.0.1") + piece(r, "", ":*", ":80", ":443", ":081") + piece(r, "", "/", "/x", "/x/", "/%78/y", "/x/y/")
		u := at(piece(r, "http", "https", "ws", "wss", "ftp") + "://" + piece(r, "a", "x.a", "x.x.a", "127.1") + piece(r, "", "", ":80", ":443", ":81") + piece(r, "", "/x", "/x/", "/x/y", "/%78/y/z"))
		self := doc(piece(r, "", "http://a", "https://a", "ws://x.a", "ftp://a:81"))
		redirect := r.Intn(3)
		checkParse(t, s)
		checkMatch(t, Parse(s), u, self, redirect)
		if Match(Parse(s), u, self, redirect) {
			yes++
		}
	}
	if yes < 5000 || yes > 95000 {
		t.Errorf("%d of 100000 match", yes)
	}
}

// P15.1 to P15.5: what has nothing in it.
func TestZero(t *testing.T) {
	zero := api.URL{}
	if Parse("") != (Expr{}) || Match(Expr{}, zero, api.Origin{}, 0) || List(nil, zero, api.Origin{}, 0) || Host("", "") || Port("", zero) {
		t.Error("nothing isn't as it should be")
	}
	if !Scheme("", "") || !Path("", "") || !Port("*", zero) || !Port("0", zero) || !Match(Expr{Kind: 1}, zero, api.Origin{}, 0) || Match(Expr{Kind: 2}, zero, api.Origin{}, 0) || !Match(Expr{Kind: 3}, zero, api.Origin{}, 0) || Match(Expr{Kind: 4}, zero, api.Origin{}, 0) {
		t.Error("nothing isn't equal to nothing")
	}
}
