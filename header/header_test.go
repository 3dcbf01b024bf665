package header

import (
	"fmt"
	"math/rand"
	"regexp"
	"slices"
	"sort"
	"strings"
	"testing"

	"parapet/api"
)

// f is a field.
func f(name, value string) api.Field { return api.Field{Name: name, Value: value} }

// single is the text of one byte.
func single(c int) string { return string([]byte{byte(c)}) }

// token is the grammar of one.
const token = `[!#$%&'*+\-.^_|~\x600-9A-Za-z]+`

var (
	isToken     = regexp.MustCompile(`^` + token + `$`)
	isMedia     = regexp.MustCompile(`^[ \t]*(` + token + `/` + token + `)[ \t]*(;|$)`)
	isValue     = regexp.MustCompile(`^([^\x00-\x20\x7f]([^\x00-\x08\x0a-\x1f\x7f]*[^\x00-\x20\x7f])?)?$`)
	isUnsafe    = regexp.MustCompile(`[\x00-\x08\x0a-\x1f"():<>?@\[\\\]{}\x7f]`)
	isLanguages = regexp.MustCompile(`^[A-Za-z0-9 *,\-.;=]*$`)
	isForm      = regexp.MustCompile(`^(application/x-www-form-urlencoded|multipart/form-data|text/plain)$`)
)

// isLower is a text in small letters.
func isLower(s string) string {
	b := []byte(s)
	for i, c := range b {
		if at := strings.IndexByte("ABCDEFGHIJKLMNOPQRSTUVWXYZ", c); at >= 0 {
			b[i] = "abcdefghijklmnopqrstuvwxyz"[at]
		}
	}
	return string(b)
}

// isValues is P13.1 of Values in the chapter's words.
func isValues(l []api.Field, names []string) []string {
	var want []string
	for _, x := range l {
		asked := 0
		for _, n := range names {
			if isLower(n) == isLower(x.Name) {
				asked++
			}
		}
		if asked > 0 {
			want = append(want, x.Value)
		}
	}
	return want
}

// isList is P13.1 of List in the chapter's words.
func isList(values []string) []string {
	var want []string
	for _, part := range strings.Split(strings.Join(values, ","), ",") {
		if strings.Trim(part, " \t") != "" {
			want = append(want, strings.Trim(part, " \t"))
		}
	}
	return want
}

// isEssence is P13.2 in the chapter's words.
func isEssence(s string) (string, bool) {
	m := isMedia.FindStringSubmatch(s)
	if m == nil {
		return "", false
	}
	return isLower(m[1]), true
}

// isValid is P13.1 of Valid in the chapter's words.
func isValid(x api.Field) bool {
	return isToken.MatchString(x.Name) && isValue.MatchString(x.Value)
}

// isSimple is P13.3 in the chapter's words.
func isSimple(x api.Field) bool {
	e, _ := isEssence(x.Value)
	switch name := isLower(x.Name); {
	case len(x.Value) > 128:
		return false
	case name == "accept":
		return !isUnsafe.MatchString(x.Value)
	case name == "accept-language", name == "content-language":
		return isLanguages.MatchString(x.Value)
	case name == "content-type":
		return !isUnsafe.MatchString(x.Value) && isForm.MatchString(e)
	}
	return false
}

// isUnsafeNames is P13.4 in the chapter's words.
func isUnsafeNames(l []api.Field) []string {
	together := 0
	for _, x := range l {
		if isSimple(x) {
			together += len(x.Value)
		}
	}
	found := map[string]bool{}
	for _, x := range l {
		if !isSimple(x) || together > 1024 {
			found[isLower(x.Name)] = true
		}
	}
	var want []string
	for name := range found {
		want = append(want, name)
	}
	sort.Strings(want)
	return want
}

// roomy is a copy of l, with spare capacity behind it in which a mark stands.
func roomy[T any](l []T, mark T) []T {
	return append(append(make([]T, 0, len(l)+4), l...), mark, mark, mark, mark)[:len(l)]
}

// untouched tells whether l is as roomy made it of was.
func untouched[T comparable](l, was []T, mark T) bool {
	return slices.Equal(l, was) && slices.Equal(l[:cap(l)][len(l):], []T{mark, mark, mark, mark})
}

// spoil writes over all of l, its spare capacity too.
func spoil[T any](l []T, with T) {
	for i := range l[:cap(l)] {
		l[:cap(l)][i] = with
	}
}

// checkNew is P13.5 of a call that returns a list: it returns this list twice,
// and again after what it returned was written over, and what it returned does
// not change when what it was given is written over.
func checkNew(t *testing.T, what string, want []string, call func() []string, overwrite func()) {
	t.Helper()
	for range 3 {
		got := call()
		if !slices.Equal(got, want) {
			t.Errorf("%.300s\n   = %.300q\n not %.300q", what, got, want)
			return
		}
		spoil(got, "spoilt")
	}
	first, second := call(), call()
	spoil(second, "spoilt")
	overwrite()
	if !slices.Equal(first, want) {
		t.Errorf("%.300s: what was returned has become %.300q", what, first)
	}
}

// checkValues holds Values against the chapter's words.
func checkValues(t *testing.T, l []api.Field, names ...string) {
	t.Helper()
	field, name := f("A", "spare"), "spare"
	givenL, givenNames := roomy(l, field), roomy(names, name)
	what := fmt.Sprintf("Values(%q, %q)", l, names)
	checkNew(t, what, isValues(l, names), func() []string { return Values(givenL, givenNames...) }, func() {
		if !untouched(givenL, l, field) || !untouched(givenNames, names, name) {
			t.Errorf("%s changed what it was given", what)
		}
		spoil(givenL, f("b", "spoilt"))
		spoil(givenNames, "b")
	})
}

// checkList holds List against the chapter's words.
func checkList(t *testing.T, values ...string) {
	t.Helper()
	given := roomy(values, "spare")
	what := fmt.Sprintf("List(%q)", values)
	checkNew(t, what, isList(values), func() []string { return List(given...) }, func() {
		if !untouched(given, values, "spare") {
			t.Errorf("%.300s changed what it was given", what)
		}
		spoil(given, "spoilt")
	})
}

// checkUnsafe holds Unsafe, and Simple of each field, against the chapter's
// words.
func checkUnsafe(t *testing.T, l []api.Field) {
	t.Helper()
	for _, x := range l {
		checkSimple(t, x)
	}
	field := f("spare", "spare")
	given := roomy(l, field)
	what := fmt.Sprintf("Unsafe(%q)", l)
	checkNew(t, what, isUnsafeNames(l), func() []string { return Unsafe(given) }, func() {
		if !untouched(given, l, field) {
			t.Errorf("%.300s changed what it was given", what)
		}
		spoil(given, f("spoilt", "spoilt"))
	})
}

// checkEssence holds Essence against the chapter's words, twice.
func checkEssence(t *testing.T, s string) {
	t.Helper()
	want, wantOK := isEssence(s)
	for range 2 {
		if got, ok := Essence(s); got != want || ok != wantOK {
			t.Errorf("Essence(%q) = %q, %v, not %q, %v", s, got, ok, want, wantOK)
		}
	}
}

// checkValid holds Valid against the chapter's words, twice.
func checkValid(t *testing.T, x api.Field) {
	t.Helper()
	for range 2 {
		if got := Valid(x); got != isValid(x) {
			t.Errorf("Valid(%q) = %v", x, got)
		}
	}
}

// checkSimple holds Simple against the chapter's words, twice.
func checkSimple(t *testing.T, x api.Field) {
	t.Helper()
	for range 2 {
		if got := Simple(x); got != isSimple(x) {
			t.Errorf("Simple(%q) = %v", x, got)
		}
	}
}

// texts calls f with every text of up to n of these pieces.
func texts(pieces []string, n int, f func(string)) {
	var grow func(string, int)
	grow = func(s string, left int) {
		f(s)
		if left == 0 {
			return
		}
		for _, p := range pieces {
			grow(s+p, left-1)
		}
	}
	grow("", n)
}

// P13.1: Values.
func TestValues(t *testing.T) {
	l := []api.Field{f("A", "1"), f("b", "2"), f("a", "3"), f("C", ""), f("", "4"), f("Content-Type", "5"), f("a", "1"), f("content-TYPE", " 6,7 "), f("aa", "8"), f("", ""), f("\xc9", "9"), f("é", "10"), f("k", "11"), f("a ", "12")}
	for _, c := range []struct {
		names []string
		want  []string
	}{
		{nil, nil},
		{[]string{}, nil},
		{[]string{"a"}, []string{"1", "3", "1"}},
		{[]string{"A"}, []string{"1", "3", "1"}},
		{[]string{"b"}, []string{"2"}},
		{[]string{"b", "a"}, []string{"1", "2", "3", "1"}}, // in the order of the fields
		{[]string{"a", "b"}, []string{"1", "2", "3", "1"}},
		{[]string{"a", "a"}, []string{"1", "3", "1"}}, // each field once
		{[]string{"a", "A", "a"}, []string{"1", "3", "1"}},
		{[]string{"c"}, []string{""}},
		{[]string{"c", "B"}, []string{"2", ""}},
		{[]string{""}, []string{"4", ""}},
		{[]string{"", "c", ""}, []string{"", "4", ""}},
		{[]string{"CONTENT-type"}, []string{"5", " 6,7 "}}, // as they are: neither trimmed nor cut
		{[]string{"content-type", "AA"}, []string{"5", " 6,7 ", "8"}},
		{[]string{"d"}, nil},
		{[]string{"d", "e", "content_type", "a:", " a", "aaa"}, nil},
		{[]string{"d", "aA", "e"}, []string{"8"}},
		{[]string{"a "}, []string{"12"}},
		{[]string{"\xc9"}, []string{"9"}},
		{[]string{"\xe9"}, nil},
		{[]string{"É"}, nil},
		{[]string{"\u212a"}, nil}, // the sign of kelvin, of which Unicode makes a k
	} {
		if got := Values(l, c.names...); !slices.Equal(got, c.want) {
			t.Errorf("Values of %q = %q, not %q", c.names, got, c.want)
		}
		checkValues(t, l, c.names...)
		checkValues(t, nil, c.names...)
		checkValues(t, []api.Field{}, c.names...)
		checkValues(t, []api.Field{{}}, c.names...)
	}
	if got := Values(nil); len(got) > 0 {
		t.Errorf("Values of nothing = %q", got)
	}
}

// P13.1: Values with each byte in a name, against each other one, and in a
// value.
func TestValuesBytes(t *testing.T) {
	var l []api.Field
	for i := range 256 {
		for _, name := range []string{single(i), single(i) + "x", "x" + single(i), "x" + single(i) + "y"} {
			l = append(l, f(name, name+single(i)))
		}
	}
	for i := range 256 {
		want := []string{"x" + single(i) + "y" + single(i)}
		if at := strings.Index("ABCDEFGHIJKLMNOPQRSTUVWXYZ", single(i)); at >= 0 {
			want = append(want, "x"+single(i+32)+"y"+single(i+32))
		}
		if at := strings.Index("abcdefghijklmnopqrstuvwxyz", single(i)); at >= 0 {
			want = append([]string{"x" + single(i-32) + "y" + single(i-32)}, want...)
		}
		if got := Values(l, "X"+single(i)+"Y"); !slices.Equal(got, want) {
			t.Errorf("Values with byte %d = %q, not %q", i, got, want)
		}
		checkValues(t, l, single(i))
		checkValues(t, l, single(i)+"X", "X"+single(i))
	}
}

// P13.1: List.
func TestList(t *testing.T) {
	for _, c := range []struct {
		values []string
		want   []string
	}{
		{nil, nil},
		{[]string{}, nil},
		{[]string{""}, nil},
		{[]string{"", "", ""}, nil},
		{[]string{"a, b,,\tc ", "", "d"}, []string{"a", "b", "c", "d"}},
		{[]string{" , "}, nil},
		{[]string{" \t ,,\t, \t,", ",", "\t"}, nil},
		{[]string{"a"}, []string{"a"}},
		{[]string{"a", "b"}, []string{"a", "b"}}, // the end of a value ends what stands there
		{[]string{"a ", " b", ",c"}, []string{"a", "b", "c"}},
		{[]string{"b", "a", "b,a,b"}, []string{"b", "a", "b", "a", "b"}}, // in order, doubles too
		{[]string{",a"}, []string{"a"}},
		{[]string{"a,"}, []string{"a"}},
		{[]string{"a b,c\td"}, []string{"a b", "c\td"}},
		{[]string{" \t a b \t , c"}, []string{"a b", "c"}},
		{[]string{"A,Bc"}, []string{"A", "Bc"}},
		{[]string{`"a,b"`}, []string{`"a`, `b"`}},
		{[]string{"a;b=c,d"}, []string{"a;b=c", "d"}},
		{[]string{"a\n,\rb,\v,\f"}, []string{"a\n", "\rb", "\v", "\f"}},
		{[]string{"\x00, \xff,\u00a0", "é , \x85"}, []string{"\x00", "\xff", "\u00a0", "é", "\x85"}},
	} {
		if got := List(c.values...); !slices.Equal(got, c.want) {
			t.Errorf("List of %q = %q, not %q", c.values, got, c.want)
		}
		checkList(t, c.values...)
	}
	if got := List(); len(got) > 0 {
		t.Errorf("List of nothing = %q", got)
	}
}

// P13.1: List cuts at `,` and at no other byte, and takes bytes 32 and 9 from
// the ends, and no other.
func TestListBytes(t *testing.T) {
	for i := range 256 {
		c := single(i)
		within, end := []string{"a" + c + "b", "d"}, []string{c + "a" + c, "d"}
		switch i {
		case ',':
			within, end = []string{"a", "b", "d"}, []string{"a", "d"}
		case ' ', '\t':
			end = []string{"a", "d"}
		}
		if got := List("a"+c+"b", "d"); !slices.Equal(got, within) {
			t.Errorf("List with byte %d within = %q", i, got)
		}
		if got := List(c + "a" + c + ",d"); !slices.Equal(got, end) {
			t.Errorf("List with byte %d at the ends = %q", i, got)
		}
		checkList(t, c, c+c, ","+c, c+",")
	}
}

// P13.1: List of values with many commas, and of many values.
func TestListLong(t *testing.T) {
	const n = 50000
	if got := List(strings.Repeat(",", n), strings.Repeat(" ,\t", n), strings.Repeat(" ", n)); len(got) > 0 {
		t.Errorf("List of commas has %d", len(got))
	}
	want := slices.Repeat([]string{"a", "bc"}, n)
	if got := List(strings.Repeat("a,\tbc ,,", n)); !slices.Equal(got, want) {
		t.Errorf("List of a long value has %d", len(got))
	}
	checkList(t, want...)
	checkList(t, slices.Repeat([]string{" a , b", "", ",,c"}, n)...)
	checkList(t, strings.Repeat("x", n)+","+strings.Repeat("y ", n))
}

// P13.1: List of every short text, and of every two.
func TestListAll(t *testing.T) {
	texts([]string{"a", "b", ",", " ", "\t", "\n"}, 5, func(s string) { checkList(t, s) })
	texts([]string{"a", ",", " "}, 3, func(s string) {
		texts([]string{"b", ",", "\t"}, 3, func(u string) { checkList(t, s, u) })
	})
}

// P13.1: Valid.
func TestValid(t *testing.T) {
	for _, c := range []struct {
		x    api.Field
		want bool
	}{
		{f("a", "x y"), true},
		{f("a", " x"), false},
		{f("a", "x "), false},
		{f("a", "\tx"), false},
		{f("a", "x\t"), false},
		{f("a", "x\ty"), true},
		{f("a", "x \t y"), true},
		{f("a", ""), true},
		{f("a", "x"), true},
		{f("a", " "), false},
		{f("a", "\t"), false},
		{f("a", " \t"), false},
		{f("", "x"), false},
		{f("", ""), false},
		{f("X-Frame_Options", "x"), true},
		{f("!#$%&'*+-.^_|~`", "x"), true},
		{f("a b", "x"), false},
		{f(" a", "x"), false},
		{f("a ", "x"), false},
		{f("a:", "x"), false},
		{f("a/b", "x"), false},
		{f("é", "x"), false},
		{f("a\x80", "x"), false},
		{f("a", "\x80é\xff"), true},
		{f("a", "\u00a0x\u00a0"), true},
		{f("a", "x\n"), false},
		{f("a", "x\r\n y"), false},
		{f("a", "\x00"), false},
		{f("a", "x\x7fy"), false},
		{f("a", `"(),/:;<=>?@[\]{}`), true},
		{f(strings.Repeat("a", 100000), strings.Repeat("x", 100000)), true},
		{f("a", strings.Repeat("x", 100000)+"\x01"), false},
		{f("a", strings.Repeat("x", 100000)+" "), false},
	} {
		if got := Valid(c.x); got != c.want {
			t.Errorf("Valid(%.100q) = %v", c.x, got)
		}
		checkValid(t, c.x)
	}
}

// P13.1: Valid with each byte in a name and in a value, alone, at the ends and
// within.
func TestValidBytes(t *testing.T) {
	const inToken = "!#$%&'*+-.^_|~`0123456789ABCDEFGHIJKLMNOPQRSTUVWXYZabcdefghijklmnopqrstuvwxyz"
	for i := range 256 {
		c := single(i)
		name, within := strings.Contains(inToken, c), i == 9 || i >= 32 && i != 127
		end := within && i != 9 && i != 32
		for _, s := range []string{c, c + "a", "a" + c, "a" + c + "a"} {
			if got := Valid(f(s, "x")); got != name {
				t.Errorf("Valid with the name %q = %v", s, got)
			}
			checkValid(t, f(s, ""))
			checkValid(t, f(s, s))
			checkValid(t, f("", s))
		}
		for _, s := range []string{c, c + "a", "a" + c, c + "a" + c} {
			if got := Valid(f("a", s)); got != end {
				t.Errorf("Valid with the value %q = %v", s, got)
			}
		}
		if got := Valid(f("a", "a"+c+"a")); got != within {
			t.Errorf("Valid with byte %d within = %v", i, got)
		}
		for j := range 256 {
			checkValid(t, f("a", c+single(j)))
			checkValid(t, f("a", "a"+c+single(j)+"a"))
			checkValid(t, f(c+single(j), "a"))
		}
	}
}

// P13.2: Essence.
func TestEssence(t *testing.T) {
	for _, c := range []struct {
		s, want string
	}{
		{"Text/Plain; charset=x", "text/plain"},
		{"a/b", "a/b"},
		{"a/b;", "a/b"},
		{"a/b;;", "a/b"},
		{"a/b;c;d/e", "a/b"},
		{" a/b\t;", "a/b"},
		{"\t \ta/b \t ; x", "a/b"},
		{" a/b ", "a/b"},
		{"A/B;C", "a/b"},
		{"TEXT/HTML", "text/html"},
		{"application/X-WWW-form-URLencoded", "application/x-www-form-urlencoded"},
		{"multipart/form-data; boundary=\"/;\"", "multipart/form-data"},
		{"a/b;\x00\n\xffé", "a/b"},
		{"*/*", "*/*"},
		{"!#$%&'*+-.^_|~`09AZaz/!#$%&'*+-.^_|~`09AZaz", "!#$%&'*+-.^_|~`09azaz/!#$%&'*+-.^_|~`09azaz"},
		{"1/2", "1/2"},
		{strings.Repeat("A", 100000) + "/B", strings.Repeat("a", 100000) + "/b"},
	} {
		if got, ok := Essence(c.s); got != c.want || !ok {
			t.Errorf("Essence(%.100q) = %.100q, %v", c.s, got, ok)
		}
	}
}

// P13.2: what has no Essence; nothing stands beside false.
func TestEssenceNone(t *testing.T) {
	for _, s := range []string{
		"a/b/c", "", " ", "\t", ";", ";;", " ;", ";a/b", " ;a/b", ";;a/b", ";a/b;", "; a/b",
		"a", "a;", "a;b/c", "a;/b", "text", "text;/plain", "/", "//", "a/", "/b", " /b", "a/ ", "a/;", "/b;", "a/;b", "/;", "a//b", "//b", "a//", "/a/b", "a/b/", "a/b/;c", "a/b/c;d",
		"a /b", "a/ b", "a / b", "a\t/b", "a/\tb", "a b/c", "a/b c", "a/b c;d", "a/b\tc", "a b",
		"\na/b", "a/b\n", "a/b\r;", "a/b\v", "\fa/b", "\u00a0a/b", "a/b\x00", "a\n/b", "a/\nb", "a/b\n;c",
		"a,b/c", "a/b,c/d", "a/b,", "a=b/c", "a/b=c", "(a)/b", "a/b(c)", "\"a/b\"", "a/\"b\"", "a:b/c", "<a/b>", "a@b/c", "[a]/b", "a\\b", "{a/b}", "?a/b", "a/b\x7f",
		"é/b", "a/é", "\xff/b", "a/\xff", "a/\u212a",
	} {
		if got, ok := Essence(s); got != "" || ok {
			t.Errorf("Essence(%q) = %q, %v", s, got, ok)
		}
		checkEssence(t, s)
	}
}

// P13.2: Essence with each byte at each place.
func TestEssenceBytes(t *testing.T) {
	for i := range 256 {
		c := single(i)
		for _, s := range []string{"a/b", "Ab/cD", " a/b", "a/b ", "a/b;x", "\ta/b\t;x/y", "ab", "a//b", ";a/b", ""} {
			for at := range len(s) + 1 {
				checkEssence(t, s[:at]+c+s[at:])
				if at < len(s) {
					checkEssence(t, s[:at]+c+s[at+1:])
				}
			}
		}
		if got, ok := Essence("a/b;" + c); got != "a/b" || !ok {
			t.Errorf("Essence with byte %d in a parameter = %q, %v", i, got, ok)
		}
	}
}

// P13.2: Essence of every short text.
func TestEssenceAll(t *testing.T) {
	texts([]string{"a", "B", "/", ";", " ", "\t", "\n", ","}, 6, func(s string) { checkEssence(t, s) })
}

// P13.3: the unsafe bytes.
func TestUnsafeBytes(t *testing.T) {
	const unsafeMarks = "\"():<>?@[\\]{}\x7f"
	for i := range 256 {
		c := single(i)
		want := i == 9 || i >= 32 && !strings.Contains(unsafeMarks, c)
		for _, s := range []string{c, c + "a", "a" + c, "a" + c + "a", c + c} {
			if got := Simple(f("accept", s)); got != want {
				t.Errorf("Simple of accept with %q = %v", s, got)
			}
		}
		for _, s := range []string{"text/plain;" + c, "text/plain;a" + c + "b", "multipart/form-data; " + c + "a", "application/x-www-form-urlencoded;;" + c} {
			if got := Simple(f("content-type", s)); got != want {
				t.Errorf("Simple of content-type with %q = %v", s, got)
			}
		}
	}
}

// P13.3: Simple of languages with each byte.
func TestLanguageBytes(t *testing.T) {
	const inLanguages = "ABCDEFGHIJKLMNOPQRSTUVWXYZabcdefghijklmnopqrstuvwxyz0123456789 *,-.;="
	for _, name := range []string{"accept-language", "content-language", "Accept-Language", "CONTENT-LANGUAGE"} {
		for i := range 256 {
			c := single(i)
			for _, s := range []string{c, c + "a", "a" + c, "a" + c + "a", c + c} {
				if got := Simple(f(name, s)); got != strings.Contains(inLanguages, c) {
					t.Errorf("Simple of %s with %q = %v", name, s, got)
				}
			}
		}
	}
}

// P13.3: Simple, of what it tells apart.
func TestSimple(t *testing.T) {
	for _, c := range []struct {
		name, value string
		want        bool
	}{
		{"Accept", "*/*", true},
		{"accept", "", true},
		{"ACCEPT", "text/html,application/xml;q=0.9", true},
		{"accept", "a\tb\x80é\xff", true},
		{"accept", " a ", true},
		{"accept", "a(b", false},
		{"accept", "a\x01", false},
		{"accept", "a:b", false},
		{"accept", "\"a\"", false},
		{"Accept-Language", "de, *;q=0.5-", true},
		{"accept-language", "", true},
		{"accept-language", " ", true},
		{"accept-language", "a/b", false},
		{"accept-language", "a\tb", false},
		{"accept-language", "a_b", false},
		{"content-language", "en", true},
		{"Content-LANGUAGE", "EN-us", true},
		{"content-language", "", true},
		{"content-language", "é", false},
		{"content-language", "a_b", false},
		{"content-language", "a\x80", false},
		{"Content-Type", "Text/Plain;charset=utf-8", true},
		{"content-type", "text/plain", true},
		{"content-type", "multipart/form-data", true},
		{"content-type", "multipart/form-data; x=y", true},
		{"CONTENT-TYPE", " APPLICATION/X-WWW-FORM-URLENCODED\t;", true},
		{"content-type", "application/x-www-form-urlencoded", true},
		{"content-type", "text/plain;é\xff", true},
		{"content-type", "text/plain;a/b", true},
		{"content-type", "text/plain,text/plain", false},
		{"content-type", "text/plain/", false},
		{"content-type", "text/plain:", false},
		{"content-type", "text/plain;a:b", false},
		{"content-type", "multipart/form-data; x=\"y\"", false},
		{"content-type", "application/json", false},
		{"content-type", "application/json;text/plain", false},
		{"content-type", "application/json, text/plain", false},
		{"content-type", ";text/plain", false},
		{"content-type", "text/html", false},
		{"content-type", "text/plainx", false},
		{"content-type", "xtext/plain", false},
		{"content-type", "text/plai", false},
		{"content-type", "text", false},
		{"content-type", "text/ plain", false},
		{"content-type", "text/*", false},
		{"content-type", "multipart/mixed", false},
		{"content-type", "multipart/formdata", false},
		{"content-type", "x-www-form-urlencoded", false},
		{"content-type", "application/x-www-form-urlencode", false},
		{"content-type", "", false},
		{"content-type", " ", false},
		{"content-type", ";", false},
		{"x", "y", false},
		{"", "", false},
		{"", "a", false},
		{"accept ", "a", false},
		{" accept", "a", false},
		{"accept:", "a", false},
		{"accep", "a", false},
		{"accepta", "a", false},
		{"accept_language", "a", false},
		{"acceptlanguage", "a", false},
		{"accept-languages", "a", false},
		{"language", "a", false},
		{"content-typ", "text/plain", false},
		{"content-length", "1", false},
		{"accept-encoding", "a", false},
		{"accept-charset", "a", false},
		{"accept,content-type", "text/plain", false},
		{"cookie", "a", false},
		{"range", "bytes=0-", false},
	} {
		if got := Simple(f(c.name, c.value)); got != c.want {
			t.Errorf("Simple(%q: %q) = %v", c.name, c.value, got)
		}
		checkSimple(t, f(c.name, c.value))
		checkSimple(t, f(strings.ToUpper(c.name), c.value))
	}
	if Simple(api.Field{}) {
		t.Error("a field of nothing is Simple")
	}
}

// kinds are values that are Simple, each with a byte that may stand behind it,
// and the names that they are Simple with.
func kinds() []struct{ name, value, more string } {
	return []struct{ name, value, more string }{
		{"accept", "", "x"}, {"Accept", "*/*;", "\xc3"}, {"accept-language", "", "x"}, {"Content-Language", "de", "-"}, {"content-type", "text/plain", ";"}, {"Content-Type", "Multipart/Form-Data;", "/"}, {"CONTENT-type", "application/x-www-form-urlencoded", " "},
	}
}

// P13.3: a Value of up to 128 bytes, and longer ones.
func TestSimpleLength(t *testing.T) {
	for _, k := range kinds() {
		for n := len(k.value); n < 300; n++ {
			x := f(k.name, k.value+strings.Repeat(k.more, n-len(k.value)))
			if got := Simple(x); got != (n <= 128) || len(x.Value) != n {
				t.Errorf("Simple(%q) of %d bytes = %v", x, n, got)
			}
			checkSimple(t, x)
		}
		if long := f(k.name, k.value+strings.Repeat(k.more, 100000)); Simple(long) {
			t.Errorf("a long field of %q is Simple", k.name)
		}
	}
	if x := f(strings.Repeat("x", 100000), "a"); Simple(x) || Simple(f("accept"+x.Name, "")) {
		t.Error("a field with a long name is Simple")
	}
	if !Simple(f("accept", strings.Repeat("é", 64))) || Simple(f("accept", strings.Repeat("é", 65))) {
		t.Error("the length of a value is not that of its bytes")
	}
}

// P13.3: Simple with each byte in a name, and at each place of values of each
// kind.
func TestSimpleBytes(t *testing.T) {
	for i := range 256 {
		c := single(i)
		for _, k := range kinds() {
			for at := range len(k.name) + 1 {
				checkSimple(t, f(k.name[:at]+c+k.name[at:], k.value))
				if Simple(f(k.name[:at]+c+k.name[at:], k.value)) {
					t.Errorf("byte %d at %d of %q is Simple", i, at, k.name)
				}
				if at == len(k.name) {
					continue
				}
				name := k.name[:at] + c + k.name[at+1:]
				if got := Simple(f(name, k.value)); got != (isLower(name) == isLower(k.name)) {
					t.Errorf("Simple(%q: %q) = %v", name, k.value, got)
				}
			}
			for at := range len(k.value) + 1 {
				checkSimple(t, f(k.name, k.value[:at]+c+k.value[at:]))
				if at < len(k.value) {
					checkSimple(t, f(k.name, k.value[:at]+c+k.value[at+1:]))
				}
			}
		}
	}
}

// P13.4: Unsafe.
func TestUnsafe(t *testing.T) {
	for _, c := range []struct {
		l    []api.Field
		want []string
	}{
		{nil, nil},
		{[]api.Field{}, nil},
		{[]api.Field{f("X-B", "1"), f("accept", "a"), f("x-a", "1"), f("X-b", "2")}, []string{"x-a", "x-b"}},
		{[]api.Field{f("X-A", "1"), f("Accept", "a")}, []string{"x-a"}},
		{[]api.Field{f("Accept", "a"), f("accept", "b"), f("Content-Type", "text/plain")}, nil},
		{[]api.Field{f("content-type", "a/b"), f("Accept", "(")}, []string{"accept", "content-type"}},
		{[]api.Field{f("accept", "a"), f("Accept", "("), f("ACCEPT", "b")}, []string{"accept"}}, // one of them is enough
		{[]api.Field{f("accept", strings.Repeat("x", 129))}, []string{"accept"}},
		{[]api.Field{{}}, []string{""}},
		{[]api.Field{f("x", ""), f("", "y"), f("X", "z"), f("", "")}, []string{"", "x"}},
		{[]api.Field{f("é", ""), f("É", ""), f("\xff", ""), f("Z", ""), f("_", ""), f("[", ""), f("@", "")}, []string{"@", "[", "_", "z", "É", "é", "\xff"}}, // bytewise
		{[]api.Field{f("ab", ""), f("b", ""), f("A", ""), f("a-", ""), f("a", ""), f("aB", "")}, []string{"a", "a-", "ab", "b"}},
		{[]api.Field{f("10", ""), f("9", ""), f("1", "")}, []string{"1", "10", "9"}},
		{[]api.Field{f(" X ", ""), f("x", "")}, []string{" x ", "x"}}, // as they are, but for the letters' case
	} {
		if got := Unsafe(c.l); !slices.Equal(got, c.want) {
			t.Errorf("Unsafe(%q) = %q, not %q", c.l, got, c.want)
		}
		checkUnsafe(t, c.l)
	}
}

// P13.4: each byte in a name.
func TestUnsafeNames(t *testing.T) {
	var l []api.Field
	for i := range 256 {
		l = append(l, f(single(255-i), "a"), f("x"+single(i), "a"))
	}
	checkUnsafe(t, l)
	if got := Unsafe(l); len(got) != 2*(256-26) {
		t.Errorf("Unsafe of all bytes has %d", len(got))
	}
	for i := range 256 {
		if got := Unsafe(l[2*i:][:2]); len(got) != 2 || got[0] >= got[1] {
			t.Errorf("Unsafe(%q) = %q", l[2*i:][:2], got)
		}
	}
}

// P13.4: the order of the fields, and their letters' case, do not count.
func TestUnsafeOrder(t *testing.T) {
	want := []string{"accept", "b", "x-a", "x-b", "y"}
	names := []string{"X-A", "x-a", "x-B", "B", "y", "Accept", "X-b", "b", "aCCEPT", "Y"}
	r := rand.New(rand.NewSource(13))
	for range 2000 {
		var l []api.Field
		for _, i := range r.Perm(len(names)) {
			name := names[i]
			if r.Intn(2) == 0 {
				name = strings.ToUpper(name)
			}
			l = append(l, f(name, "(")) // of no kind, and for accept unsafe
		}
		if got := Unsafe(l); !slices.Equal(got, want) {
			t.Errorf("Unsafe(%q) = %q", l, got)
		}
		checkUnsafe(t, l)
	}
}

// together is Simple fields of each name, whose Values have n bytes, of which
// there are 12 at least.
func together(n int) []api.Field {
	var l []api.Field
	for _, x := range []api.Field{f("Content-Type", "text/plain"), f("ACCEPT", ""), f("Accept-Language", "de"), f("content-LANGUAGE", "")} {
		l = append(l, x)
		n -= len(x.Value)
	}
	for n > 0 {
		size := min(n, 100+28*(len(l)%2))
		l = append(l, f([]string{"accept", "accept-language", "content-language"}[len(l)%3], strings.Repeat("x", size)))
		n -= size
	}
	return l
}

// P13.4: Values of Simple fields that have 1024 bytes together, and more.
func TestTogether(t *testing.T) {
	big := f("accept", strings.Repeat("x", 128))
	simple := []string{"accept", "accept-language", "content-language", "content-type"}
	for n := 12; n < 2100; n++ {
		want := simple
		if n <= 1024 {
			want = nil
		}
		l := together(n)
		if got := Unsafe(l); !slices.Equal(got, want) {
			t.Errorf("Unsafe of %d bytes = %q", n, got)
		}
		if got := Unsafe(append(l, f("A", strings.Repeat("y", 5000)), f("X-z", ""), f("accept", "("+big.Value))); !slices.Equal(got, withOthers(want)) {
			t.Errorf("Unsafe of %d bytes and of others = %q", n, got)
		}
		if n > 1010 && n < 1040 {
			checkUnsafe(t, l)
			checkUnsafe(t, append(together(n), big, f("B", big.Value)))
		}
	}
}

// withOthers is the names that are unsafe with the others of TestTogether.
func withOthers(simple []string) []string {
	l := append([]string{"a", "accept", "x-z"}, simple...)
	slices.Sort(l)
	return slices.Compact(l)
}

// P13.4: what counts for the 1024 bytes: all Simple fields, those of one name
// too, and no other; the Values, and not the Names.
func TestTogetherCounts(t *testing.T) {
	big := f("accept", strings.Repeat("x", 128))
	lang := f("Accept-Language", strings.Repeat("x", 128))
	eight := []api.Field{big, lang, big, lang, big, lang, big, lang}
	for _, c := range []struct {
		l    []api.Field
		want []string
	}{
		{eight, nil},
		{slices.Repeat([]api.Field{big}, 8), nil},
		{append(slices.Repeat([]api.Field{big}, 8), f("ACCEPT", "")), nil},
		{append(slices.Repeat([]api.Field{big}, 8), f("ACCEPT", "x")), []string{"accept"}},
		{slices.Repeat([]api.Field{big}, 9), []string{"accept"}},
		{slices.Concat(eight, []api.Field{f("accept", ""), f("content-language", "")}), nil},
		{slices.Concat(eight, []api.Field{f("content-language", "x")}), []string{"accept", "accept-language", "content-language"}},
		{slices.Concat(eight, []api.Field{f("accept", "a"), f("z", "")}), []string{"accept", "accept-language", "z"}},
		{slices.Concat(eight, []api.Field{f("z", strings.Repeat("x", 2000)), f("z", "1")}), []string{"z"}},
		{slices.Concat(eight, []api.Field{f("content-type", "application/json")}), []string{"content-type"}},
		{slices.Concat(eight, []api.Field{f("content-type", "text/plain")}), []string{"accept", "accept-language", "content-type"}},
		{slices.Concat(eight, []api.Field{f("accept", "("), f("Accept-Language", "_")}), []string{"accept", "accept-language"}},
		{slices.Concat(eight, []api.Field{f("accept", big.Value+"x")}), []string{"accept"}}, // too long, and so not Simple
		{slices.Concat([]api.Field{f("B", "x")}, eight, []api.Field{f("a", "x")}), []string{"a", "b"}},
		{[]api.Field{f("x", strings.Repeat("x", 5000)), big}, []string{"x"}},
		{slices.Repeat([]api.Field{f("accept", "")}, 5000), nil},
		{slices.Repeat([]api.Field{f("accept", "x")}, 1024), nil},
		{slices.Repeat([]api.Field{f("accept", "x")}, 1025), []string{"accept"}},
		{slices.Repeat([]api.Field{f("content-type", "text/plain")}, 102), nil},
		{slices.Repeat([]api.Field{f("content-type", "text/plain")}, 103), []string{"content-type"}},
	} {
		if got := Unsafe(c.l); !slices.Equal(got, c.want) {
			t.Errorf("Unsafe of %d fields = %q, not %q", len(c.l), got, c.want)
		}
		checkUnsafe(t, c.l)
		slices.Reverse(c.l)
		checkUnsafe(t, c.l)
	}
}

// P13.5: what two calls return shares no memory, and none with what they were
// given; nor does the capacity of what they were given count.
func TestNewMemory(t *testing.T) {
	l := []api.Field{f("A", "1"), f("B", "2"), f("a", "3"), f("b", "4")}
	values := []string{"a,b", "c"}
	a, b, c, d := Values(l, "a", "b"), List(values...), Unsafe(l), Values(l[:2], "a", "b")
	a = append(a[:1], "more", "and more", "yet more", "x")
	b = append(b[:1], "more", "and more", "x")
	c = append(c[:1], "more", "x")
	d = append(d[:0], "less", "more", "x", "y")
	if !slices.Equal(l, []api.Field{f("A", "1"), f("B", "2"), f("a", "3"), f("b", "4")}) || !slices.Equal(values, []string{"a,b", "c"}) {
		t.Errorf("what was given has become %q and %q", l, values)
	}
	for _, got := range [][]string{a, b, c, d} {
		spoil(got, "spoilt")
	}
	if got := Values(l, "a", "b"); !slices.Equal(got, []string{"1", "2", "3", "4"}) {
		t.Errorf("Values = %q", got)
	}
	if got := List(values...); !slices.Equal(got, []string{"a", "b", "c"}) {
		t.Errorf("List = %q", got)
	}
	if got := Unsafe(l); !slices.Equal(got, []string{"a", "b"}) {
		t.Errorf("Unsafe = %q", got)
	}
}

// P13.5: nothing is kept from call to call: each returns the same, whatever was
// called ahead of it.
func TestNothingKept(t *testing.T) {
	var l []api.Field
	for _, name := range []string{"accept", "ACCEPT", "content-type", "Accept-Language", "x", "X", ""} {
		for _, value := range []string{"", "a", "Text/Plain;x", "text/plain/", "a, b", "a\x00", " a", strings.Repeat("x", 128), strings.Repeat("x", 129)} {
			l = append(l, f(name, value))
		}
	}
	answers := func(x api.Field) string {
		e, ok := Essence(x.Value)
		return fmt.Sprintf("%q %v %v %v %q %q %q", e, ok, Valid(x), Simple(x), Values(l, x.Name), List(x.Value, x.Value), Unsafe([]api.Field{x, x}))
	}
	was := slices.Clone(l)
	var first []string
	for _, x := range l {
		first = append(first, answers(x))
	}
	for i, x := range slices.Backward(l) {
		if got := answers(x); got != first[i] {
			t.Errorf("%q was answered %s and is answered %s", x, first[i], got)
		}
	}
	if !slices.Equal(l, was) {
		t.Errorf("what was given has become %q", l)
	}
}

// P13.1 to P13.5, for many fields by chance.
func TestByChance(t *testing.T) {
	r := rand.New(rand.NewSource(13))
	one := func(l ...string) string { return l[r.Intn(len(l))] }
	piece := func() string {
		return one("a", "B", ",", " ", "\t", ";", "/", "text/plain", "Multipart/Form-Data", "application/x-www-form-urlencoded", "-", "*", "=", "(", "é", strings.Repeat("x", r.Intn(140)), single(r.Intn(256)))
	}
	simple, unsafe := 0, 0
	for range 30000 {
		var l []api.Field
		for range r.Intn(14) {
			x := f(one("accept", "Accept", "accept-language", "Content-Language", "content-type", "CONTENT-TYPE", "x-a", "X-A", "b", "", single(r.Intn(256))), "")
			if r.Intn(3) == 0 {
				x.Value = one("text/plain", "multipart/form-data", strings.Repeat("x", 120+r.Intn(9)))
			}
			for range r.Intn(3) {
				x.Value += piece()
			}
			l = append(l, x)
		}
		names := slices.Repeat([]string{one("accept", "ACCEPT", "X-a", "B", "", "c")}, r.Intn(3))
		names = append(names, one("Content-Type", "x-a", "content-language"))
		checkValues(t, l, names...)
		checkList(t, Values(l, names...)...)
		checkUnsafe(t, l)
		for _, x := range l {
			checkEssence(t, x.Value)
			checkValid(t, x)
			if Simple(x) {
				simple++
			}
		}
		unsafe += len(Unsafe(l))
		if t.Failed() {
			return
		}
	}
	if simple < 20000 || unsafe < 20000 {
		t.Errorf("of all fields only %d are Simple, and only %d names Unsafe", simple, unsafe)
	}
}
