package direct

import (
	"fmt"
	"math"
	"slices"
	"strings"
	"testing"

	"parapet/api"
	"parapet/csp"
	"parapet/origin"
	"parapet/source"
	"parapet/url"
)

// link is a destination with the names that apply to it.
type link struct {
	dest  string
	names []string
}

// table is that of P16.1, a row for each destination.
func table() []link {
	media := []string{"media-src", "default-src"}
	object := []string{"object-src", "default-src"}
	frame := []string{"frame-src", "child-src", "default-src"}
	worker := []string{"worker-src", "child-src", "script-src", "default-src"}
	return []link{
		{"", []string{"connect-src", "default-src"}},
		{"script", []string{"script-src-elem", "script-src", "default-src"}},
		{"style", []string{"style-src-elem", "style-src", "default-src"}},
		{"image", []string{"img-src", "default-src"}},
		{"font", []string{"font-src", "default-src"}},
		{"manifest", []string{"manifest-src", "default-src"}},
		{"audio", media},
		{"video", media},
		{"track", media},
		{"object", object},
		{"embed", object},
		{"frame", frame},
		{"iframe", frame},
		{"worker", worker},
		{"sharedworker", worker},
		{"serviceworker", worker},
	}
}

// named are the names of the table, each once.
func named() []string {
	var l []string
	for _, x := range table() {
		for _, name := range x.names {
			if !slices.Contains(l, name) {
				l = append(l, name)
			}
		}
	}
	return l
}

// unknown are names that apply to no destination, some of them hardly.
func unknown() []string {
	l := []string{
		"x", "default", "src", "-src", "default-sr", "default-srcs", "xdefault-src", "default_src", "default-src-elem",
		"script-src-attr", "script-src-ele", "style-src-attr", "image-src", "audio-src", "video-src", "track-src", "embed-src",
		"iframe-src", "sharedworker-src", "serviceworker-src", "connect", "img", "child", "report-uri", "sandbox",
		"base-uri", "form-action", "frame-ancestors", "upgrade-insecure-requests", "document", "document-src", "prefetch-src",
		"img-src,", ",img-src", "img-src:", "'none'", "*", "\x00", "img-src\x00",
	}
	for _, x := range table() {
		if x.dest != "" {
			l = append(l, x.dest)
		}
	}
	return l
}

// isChain is P16.1 in the chapter's words.
func isChain(dest string) []string {
	for _, x := range table() {
		if x.dest == dest {
			return x.names
		}
	}
	return nil
}

// foreign are names that do not apply to a destination.
func foreign(dest string) []string {
	return slices.DeleteFunc(append(named(), unknown()...), func(name string) bool {
		return slices.Contains(isChain(dest), name)
	})
}

// strange are destinations to which no name applies: those of the table with
// great letters, with a byte more, less or another, and other texts.
func strange() []string {
	l := []string{
		"document", "Document", "documents", "x", "*", "all", "none", "null", "nil", "0", "é", "\x00", "\xff", " ", "\t", "\n", "  ",
		"empty", "fetch", "xhr", "connect", "json", "report", "xslt", "paintworklet", "audioworklet", "webidentity", "img", "media",
		"child", "default", "scripts", "script-like", "script,style", "script style", "script;", "audio, video, track", "scriptstyle",
		strings.Repeat("a", 1<<16), strings.Repeat("script", 1<<12),
	}
	l = append(l, named()...)
	for _, x := range table() {
		l = append(l, altered(x.dest)...)
	}
	return slices.DeleteFunc(l, func(s string) bool { return isChain(s) != nil })
}

// altered are the texts that differ from s in a byte or in the case of letters.
func altered(s string) []string {
	l := []string{strings.ToUpper(s), s + s, s + "s", s + "-src"}
	for i := range len(s) + 1 {
		for c := range 256 {
			l = append(l, s[:i]+single(c)+s[i:])
			if i < len(s) {
				l = append(l, s[:i]+single(c)+s[i+1:])
			}
		}
		if i < len(s) {
			l = append(l, s[:i]+s[i+1:], s[:i], s[i:], s[:i]+strings.ToUpper(s[i:]), strings.ToUpper(s[:i])+s[i:])
		}
	}
	return l
}

// single is the text of one byte.
func single(c int) string { return string([]byte{byte(c)}) }

// destinations are those of the table and some to which no name applies.
func destinations() []string {
	var l []string
	for _, x := range table() {
		l = append(l, x.dest)
	}
	return append(l, "document", "Script", "IMAGE", "worker ", " font", "style\x00", "scrip", "x", "é", "img-src")
}

// d is a directive.
func d(name string, sources ...string) api.Directive {
	return api.Directive{Name: name, Sources: sources}
}

// isDecide is P16.2 of Decide in the chapter's words: the first directive of the
// nearest name.
func isDecide(l []api.Directive, dest string) (api.Directive, bool) {
	names := isChain(dest)
	nearest, found := len(names), api.Directive{}
	for _, x := range l {
		if at := slices.Index(names, x.Name); at >= 0 && at < nearest {
			nearest, found = at, x
		}
	}
	return found, nearest < len(names)
}

// isAllows is P16.2 of Allows in the chapter's words.
func isAllows(policy, dest string, u api.URL, self api.Origin, redirect int) bool {
	x, ok := isDecide(csp.Parse(policy), dest)
	return !ok || source.List(x.Sources, u, self, redirect)
}

// isAll is P16.2 of All in the chapter's words.
func isAll(policies []string, dest string, u api.URL, self api.Origin, redirect int) bool {
	n := 0
	for _, policy := range policies {
		if isAllows(policy, dest, u, self, redirect) {
			n++
		}
	}
	return n == len(policies)
}

// equal tells whether two directives are, where a nil list is an empty one.
func equal(a, b api.Directive) bool {
	return a.Name == b.Name && slices.Equal(a.Sources, b.Sources)
}

// equals tells whether two lists of directives are.
func equals(a, b []api.Directive) bool { return slices.EqualFunc(a, b, equal) }

// spare is what stands in spare capacity.
const spare = "spare"

// roomy is a copy of l, with spare capacity behind it in which a mark stands.
func roomy[T any](l []T, mark T) []T {
	return append(append(make([]T, 0, len(l)+3), l...), mark, mark, mark)[:len(l)]
}

// roomyList is a copy of directives, all lists of which have spare capacity.
func roomyList(l []api.Directive) []api.Directive {
	c := roomy(l, d(spare))
	for i, x := range l {
		c[i].Sources = roomy(x.Sources, spare)
	}
	return c
}

// untouched tells whether l is as roomy made it of was.
func untouched(l, was []string) bool {
	return slices.Equal(l, was) && slices.Equal(l[:cap(l)][len(l):], []string{spare, spare, spare})
}

// untouchedList tells whether l is as roomyList made it of was.
func untouchedList(l, was []api.Directive) bool {
	mark := d(spare)
	ok := equals(l, was) && equals(l[:cap(l)][len(l):], []api.Directive{mark, mark, mark})
	for i, x := range l {
		ok = ok && untouched(x.Sources, was[i].Sources)
	}
	return ok
}

// spoil writes over all of l, its spare capacity too.
func spoil[T any](l []T, with T) {
	for i := range l[:cap(l)] {
		l[:cap(l)][i] = with
	}
}

// checkChain holds Chain against the table. Each call returns memory of its own.
func checkChain(t *testing.T, dest string) {
	t.Helper()
	want := isChain(dest)
	first := Chain(dest)
	for range 3 {
		got := Chain(dest)
		if !slices.Equal(got, want) {
			t.Errorf("Chain(%.100q) = %q, not %q", dest, got, want)
		}
		spoil(got, "spoilt")
	}
	if !slices.Equal(first, want) {
		t.Errorf("Chain(%.100q): what was returned has become %q", dest, first)
	}
}

// checkDecide holds Decide against the chapter's words. It returns new memory,
// and what it is given stays as it is.
func checkDecide(t *testing.T, l []api.Directive, dest string) {
	t.Helper()
	want, found := isDecide(l, dest)
	given := roomyList(l)
	for range 2 {
		got, ok := Decide(given, dest)
		if ok != found || !equal(got, want) {
			t.Errorf("Decide(%.300q, %.100q) = %.300q, %v, not %.300q, %v", l, dest, got, ok, want, found)
		}
		spoil(got.Sources, "spoilt")
		if !untouchedList(given, l) {
			t.Errorf("Decide(%.300q, %.100q): what was given is changed, or returned", l, dest)
		}
	}
	got, _ := Decide(given, dest)
	for _, x := range given {
		spoil(x.Sources, "spoilt")
	}
	spoil(given, d("default-src", "spoilt"))
	if !equal(got, want) {
		t.Errorf("Decide(%.300q, %.100q): what was returned has become %.300q", l, dest, got)
	}
	if got, ok := Decide(l, dest); ok != found || !equal(got, want) {
		t.Errorf("Decide(%.300q, %.100q) has become %.300q, %v", l, dest, got, ok)
	}
}

// fetch is what is asked of policies.
type fetch struct {
	dest     string
	u        api.URL
	self     api.Origin
	redirect int
}

func (f fetch) String() string {
	return fmt.Sprintf("%.100q of %q for %q after %d redirects", f.dest, url.Text(f.u), origin.Text(f.self), f.redirect)
}

// checkAllows holds Allows, and All of one policy, against the chapter's words.
func checkAllows(t *testing.T, policy string, f fetch) {
	t.Helper()
	want := isAllows(policy, f.dest, f.u, f.self, f.redirect)
	for range 2 {
		if got := Allows(policy, f.dest, f.u, f.self, f.redirect); got != want {
			t.Errorf("%.300q allows %s: %v", policy, f, got)
		}
	}
	if got := All([]string{policy}, f.dest, f.u, f.self, f.redirect); got != want {
		t.Errorf("All of only %.300q allow %s: %v", policy, f, got)
	}
}

// checkAll holds All against the chapter's words. What it is given stays as it
// is, and doesn't count when it is called with others.
func checkAll(t *testing.T, policies []string, f fetch) {
	t.Helper()
	want := isAll(policies, f.dest, f.u, f.self, f.redirect)
	given := roomy(policies, spare)
	for range 2 {
		if got := All(given, f.dest, f.u, f.self, f.redirect); got != want {
			t.Errorf("all of %.300q allow %s: %v", policies, f, got)
		}
		if !untouched(given, policies) {
			t.Errorf("All(%.300q, ..) changed what it was given", policies)
		}
	}
	spoil(given, "x y")
	if !All(given, f.dest, f.u, f.self, f.redirect) {
		t.Errorf("policies that say nothing, after %.300q, refuse %s", policies, f)
	}
	if got := All(policies, f.dest, f.u, f.self, f.redirect); got != want {
		t.Errorf("all of %.300q allow %s: it has become %v", policies, f, got)
	}
}

// redirects are numbers of redirects; of 0 alone paths count.
var redirects = []int{0, 1, 2, 20, -1, math.MaxInt, math.MinInt}

// at is the URL of a text.
func at(s string) api.URL {
	u, e := url.Parse(s)
	if e != api.OK {
		panic(s + " is no URL")
	}
	return u
}

// doc is the origin of a text; that of an empty one is the zero Origin.
func doc(s string) api.Origin {
	if s == "" {
		return api.Origin{}
	}
	return origin.Of(at(s))
}

// orders calls f with l in each of its orders. The list is f's for the call.
func orders[T any](l []T, f func(l []T)) {
	if len(l) < 2 {
		f(slices.Clone(l))
		return
	}
	for i := range l {
		rest := slices.Concat(l[:i], l[i+1:])
		orders(rest, func(order []T) { f(append([]T{l[i]}, order...)) })
	}
}

// some calls f with each choice of elements of l, in the order of l.
func some[T any](l []T, f func(l []T)) {
	for set := range 1 << len(l) {
		var chosen []T
		for i, x := range l {
			if set&(1<<i) != 0 {
				chosen = append(chosen, x)
			}
		}
		f(chosen)
	}
}

// with is l with x at a place.
func with[T any](l []T, place int, x T) []T {
	return slices.Concat(l[:place], []T{x}, l[place:])
}
