package source

import (
	"math/big"
	"regexp"
	"slices"
	"strconv"
	"strings"
	"testing"

	"parapet/api"
	"parapet/origin"
	"parapet/url"
)

var (
	isSchemeAlone = regexp.MustCompile(`^([A-Za-z][A-Za-z0-9+.-]*):$`)
	isWithHost    = regexp.MustCompile(`^(?:([A-Za-z][A-Za-z0-9+.-]*)://)?` +
		`(\*|(?:\*\.)?[A-Za-z0-9_-]+(?:\.[A-Za-z0-9_-]+)*)` +
		`(?::(\*|[0-9]{1,5}))?` +
		`(/[!"$-+\-.-:<->@-~]*)?$`)
	isDigits  = regexp.MustCompile(`^[0-9]+$`)
	isEscape  = regexp.MustCompile(`%[0-9A-Fa-f]{2}`)
	isAddress = regexp.MustCompile(`^(0|[1-9][0-9]{0,2})\.(0|[1-9][0-9]{0,2})\.(0|[1-9][0-9]{0,2})\.(0|[1-9][0-9]{0,2})$`)
)

// ports are the schemes, with their default ports.
func ports() map[string]int {
	return map[string]int{"http": 80, "https": 443, "ws": 80, "wss": 443, "ftp": 21}
}

// single is the text of one byte.
func single(c int) string { return string([]byte{byte(c)}) }

// small is a text in small letters.
func small(s string) string {
	b := []byte(s)
	for i, c := range b {
		if at := strings.IndexByte("ABCDEFGHIJKLMNOPQRSTUVWXYZ", c); at >= 0 {
			b[i] = "abcdefghijklmnopqrstuvwxyz"[at]
		}
	}
	return string(b)
}

// decoded is a text without escapes.
func decoded(s string) string {
	return isEscape.ReplaceAllStringFunc(s, func(e string) string {
		n, _ := strconv.ParseUint(e[1:], 16, 8)
		return single(int(n))
	})
}

// address tells whether a host is one.
func address(h string) bool {
	m := isAddress.FindStringSubmatch(h)
	if m == nil {
		return false
	}
	return !slices.ContainsFunc(m[1:], func(part string) bool {
		n, _ := strconv.Atoi(part)
		return n > 255
	})
}

// portOf is a URL's, in the words of chapter 11.
func portOf(u api.URL) int {
	if u.Port == -1 {
		return ports()[u.Scheme]
	}
	return u.Port
}

// isParse is P15.1 in the chapter's words.
func isParse(s string) Expr {
	if s == "*" {
		return Expr{Kind: 1}
	}
	if small(s) == "'self'" {
		return Expr{Kind: 2}
	}
	if len(s) >= 2 && strings.HasPrefix(s, "'") && strings.HasSuffix(s, "'") {
		return Expr{Kind: 5}
	}
	if m := isSchemeAlone.FindStringSubmatch(s); m != nil {
		return Expr{Kind: 3, Scheme: small(m[1])}
	}
	if m := isWithHost.FindStringSubmatch(s); m != nil {
		return Expr{Kind: 4, Scheme: small(m[1]), Host: small(m[2]), Port: m[3], Path: m[4]}
	}
	return Expr{}
}

// isScheme is P15.2 of Scheme in the chapter's words.
func isScheme(a, b string) bool {
	return a == b ||
		a == "http" && b == "https" ||
		a == "ws" && (b == "wss" || b == "http" || b == "https") ||
		a == "wss" && b == "https"
}

// isHost is P15.2 of Host in the chapter's words.
func isHost(pattern, h string) bool {
	if h == "" {
		return false
	}
	if pattern == "*" {
		return true
	}
	if len(pattern) >= 2 && pattern[:2] == "*." {
		at := len(h) - len(pattern[1:])
		return !address(h) && at >= 1 && h[at:] == pattern[1:]
	}
	return pattern == h && (h == "127.0.0.1" || !address(h))
}

// isPort is P15.3 of Port in the chapter's words.
func isPort(pattern string, u api.URL) bool {
	if pattern == "" {
		port, ok := ports()[u.Scheme]
		return ok && portOf(u) == port
	}
	if pattern == "*" {
		return true
	}
	if !isDigits.MatchString(pattern) {
		return false
	}
	n, _ := new(big.Int).SetString(pattern, 10)
	if n.Cmp(big.NewInt(10_000_010)) >= 0 {
		return false
	}
	return n.Int64() == int64(portOf(u)) || n.Int64() == 80 && portOf(u) == 443
}

// isPath is P15.3 of Path in the chapter's words.
func isPath(pattern, path string) bool {
	if pattern == "" || pattern == "/" && path == "" {
		return true
	}
	parts, of := strings.Split(pattern, "/"), strings.Split(path, "/")
	exact := pattern[len(pattern)-1] != '/'
	if len(parts) > len(of) {
		return false
	}
	if exact && len(parts) < len(of) {
		return false
	}
	if !exact {
		parts = parts[:len(parts)-1]
	}
	ok := true
	for i := range parts {
		ok = ok && decoded(parts[i]) == decoded(of[i])
	}
	return ok
}

// isSelf is P15.4 of Kind 2 in the chapter's words.
func isSelf(u api.URL, self api.Origin) bool {
	zero := api.Origin{}
	if self == zero {
		return false
	}
	port := portOf(u)
	if self == (api.Origin{Scheme: u.Scheme, Host: u.Host, Port: port}) {
		return true
	}
	own, ok := ports()[self.Scheme]
	uOwn, uOK := ports()[u.Scheme]
	bothDefault := ok && uOK && own == self.Port && uOwn == port
	secure := u.Scheme == "https" || u.Scheme == "wss"
	sockets := self.Scheme == "http" && u.Scheme == "ws"
	return self.Host == u.Host && (self.Port == port || bothDefault) && (secure || sockets)
}

// isMatch is P15.4 in the chapter's words.
func isMatch(e Expr, u api.URL, self api.Origin, redirect int) bool {
	switch e.Kind {
	case 1:
		return u.Scheme == "http" || u.Scheme == "https" || u.Scheme == "ws" || u.Scheme == "wss" || u.Scheme == self.Scheme
	case 2:
		return isSelf(u, self)
	case 3:
		return isScheme(e.Scheme, u.Scheme)
	case 4:
		if e.Scheme != "" && !isScheme(e.Scheme, u.Scheme) {
			return false
		}
		if e.Scheme == "" && self != (api.Origin{}) && !isScheme(self.Scheme, u.Scheme) {
			return false
		}
		if !isHost(e.Host, u.Host) || !isPort(e.Port, u) {
			return false
		}
		return redirect != 0 || isPath(e.Path, u.Path)
	}
	return false
}

// isList is P15.5 in the chapter's words.
func isList(sources []string, u api.URL, self api.Origin, redirect int) bool {
	n := 0
	for _, s := range sources {
		if isMatch(isParse(s), u, self, redirect) {
			n++
		}
	}
	return n > 0
}

// checkParse holds Parse against the chapter's words, twice.
func checkParse(t *testing.T, s string) {
	t.Helper()
	want := isParse(s)
	for range 2 {
		if got := Parse(s); got != want {
			t.Errorf("Parse(%.200q)\n   = %.300q\n not %.300q", s, show(got), show(want))
		}
	}
}

// show is an expression as texts.
func show(e Expr) []string {
	return []string{strconv.Itoa(e.Kind), e.Scheme, e.Host, e.Port, e.Path}
}

// checkScheme holds Scheme against the chapter's words, and is P15.6 of a scheme.
func checkScheme(t *testing.T, a, b string) {
	t.Helper()
	checkTwice(t, isScheme(a, b), func() bool { return Scheme(a, b) }, "Scheme(%.100q, %.100q)", a, b)
	if secure, ok := secureOf(b); ok && Scheme(a, b) && !Scheme(a, secure) {
		t.Errorf("%q matches %q, but not %q", a, b, secure)
	}
}

// secureOf is the scheme that corresponds to one that is not secure.
func secureOf(scheme string) (string, bool) {
	switch scheme {
	case "http":
		return "https", true
	case "ws":
		return "wss", true
	}
	return "", false
}

// checkTwice is that a call returns this, and the same again.
func checkTwice(t *testing.T, want bool, call func() bool, what string, of ...any) {
	t.Helper()
	for range 2 {
		if got := call(); got != want {
			t.Errorf(what+" = %v", append(of, got)...)
		}
	}
}

// checkHost holds Host against the chapter's words.
func checkHost(t *testing.T, pattern, h string) {
	t.Helper()
	checkTwice(t, isHost(pattern, h), func() bool { return Host(pattern, h) }, "Host(%.100q, %.100q)", pattern, h)
}

// checkPort holds Port against the chapter's words.
func checkPort(t *testing.T, pattern string, u api.URL) {
	t.Helper()
	checkTwice(t, isPort(pattern, u), func() bool { return Port(pattern, u) }, "Port(%.100q, %+v)", pattern, u)
}

// checkPath holds Path against the chapter's words.
func checkPath(t *testing.T, pattern, path string) {
	t.Helper()
	checkTwice(t, isPath(pattern, path), func() bool { return Path(pattern, path) }, "Path(%.100q, %.100q)", pattern, path)
}

// checkMatch holds Match against the chapter's words, and is P15.6.
func checkMatch(t *testing.T, e Expr, u api.URL, self api.Origin, redirect int) {
	t.Helper()
	want := isMatch(e, u, self, redirect)
	checkTwice(t, want, func() bool { return Match(e, u, self, redirect) }, "Match(%.300q, %+v, %+v, %d)", show(e), u, self, redirect)
	if want {
		checkFollows(t, e, u, self, redirect)
	}
}

// checkFollows is P15.6 of an expression that matches.
func checkFollows(t *testing.T, e Expr, u api.URL, self api.Origin, redirect int) {
	t.Helper()
	bare := e
	bare.Path = ""
	if !Match(bare, u, self, redirect) {
		t.Errorf("%q matches %+v with its path only", show(e), u)
	}
	if secure, ok := secureOf(u.Scheme); ok && e.Kind == 3 {
		v := u
		v.Scheme = secure
		if !Match(e, v, self, redirect) {
			t.Errorf("%q matches %+v, but not with %s", show(e), u, secure)
		}
	}
}

// spare is what stands in spare capacity.
const spare = "spare"

// roomy is a copy of l, with spare capacity behind it in which a mark stands.
func roomy(l []string) []string {
	return append(append(make([]string, 0, len(l)+3), l...), spare, spare, spare)[:len(l)]
}

// untouched tells whether l is as roomy made it of was.
func untouched(l, was []string) bool {
	return slices.Equal(l, was) && slices.Equal(l[:cap(l)][len(l):], []string{spare, spare, spare})
}

// checkList holds List against the chapter's words. It returns the same again
// with the same sources elsewhere, and none of what it was given counts when it
// is called with others.
func checkList(t *testing.T, sources []string, u api.URL, self api.Origin, redirect int) {
	t.Helper()
	want := isList(sources, u, self, redirect)
	given := roomy(sources)
	for range 2 {
		if got := List(given, u, self, redirect); got != want {
			t.Errorf("List(%.300q, %+v, %+v, %d) = %v", sources, u, self, redirect, got)
		}
		if !untouched(given, sources) {
			t.Errorf("List(%.300q, ..) changed what it was given", sources)
		}
	}
	for i := range given[:cap(given)] {
		given[:cap(given)][i] = "'spoilt'"
	}
	if List(given, u, self, redirect) {
		t.Errorf("List of keywords after %.300q matches %+v", sources, u)
	}
	if got := List(sources, u, self, redirect); got != want {
		t.Errorf("List(%.300q, %+v, %+v, %d) has become %v", sources, u, self, redirect, got)
	}
}

// at is the URL of a text.
func at(s string) api.URL {
	u, e := url.Parse(s)
	if e != api.OK {
		panic(s + " is no URL")
	}
	return u
}

// doc is the origin of a text; that of an empty one is the zero Origin.
func doc(s string) api.Origin {
	if s == "" {
		return api.Origin{}
	}
	return origin.Of(at(s))
}

// texts are all texts of up to n of these pieces.
func texts(pieces []string, n int) []string {
	all := []string{""}
	for last := all; n > 0; n-- {
		var next []string
		for _, s := range last {
			for _, p := range pieces {
				next = append(next, s+p)
			}
		}
		all = append(all, next...)
		last = next
	}
	return all
}

// pairs calls f with all pairs of these texts.
func pairs(l, m []string, f func(a, b string)) {
	for _, a := range l {
		for _, b := range m {
			f(a, b)
		}
	}
}
