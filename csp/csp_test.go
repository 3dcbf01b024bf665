package csp

import (
	"fmt"
	"math/rand"
	"regexp"
	"slices"
	"strings"
	"testing"

	"parapet/api"
)

// d is a directive.
func d(name string, sources ...string) api.Directive {
	return api.Directive{Name: name, Sources: sources}
}

// list is some directives.
func list(l ...api.Directive) []api.Directive { return l }

// single is the text of one byte.
func single(c int) string { return string([]byte{byte(c)}) }

var (
	isASCII = regexp.MustCompile(`^[\x00-\x7f]*$`)
	isWord  = regexp.MustCompile(`[^\t\n\f\r ]+`)
)

// isLower is a text in small letters.
func isLower(s string) string {
	b := []byte(s)
	for i, c := range b {
		if at := strings.IndexByte("ABCDEFGHIJKLMNOPQRSTUVWXYZ", c); at >= 0 {
			b[i] = "abcdefghijklmnopqrstuvwxyz"[at]
		}
	}
	return string(b)
}

// isParse is P14.1 of Parse in the chapter's words.
func isParse(s string) []api.Directive {
	var want []api.Directive
	earlier := map[string]bool{}
	for _, part := range strings.Split(s, ";") {
		words := isWord.FindAllString(part, -1)
		if !isASCII.MatchString(part) || len(words) == 0 || earlier[isLower(words[0])] {
			continue
		}
		earlier[isLower(words[0])] = true
		want = append(want, d(isLower(words[0]), words[1:]...))
	}
	return want
}

// isText is P14.2 of Text in the chapter's words.
func isText(l []api.Directive) string {
	s := ""
	for i, x := range l {
		if i > 0 {
			s += "; "
		}
		s += x.Name
		for _, source := range x.Sources {
			s += " " + source
		}
	}
	return s
}

// isFind is P14.2 of Find in the chapter's words.
func isFind(l []api.Directive, names []string) (api.Directive, bool) {
	for len(names) > 0 {
		at := slices.IndexFunc(l, func(x api.Directive) bool { return x.Name == names[0] })
		if at >= 0 {
			return d(l[at].Name, slices.Clone(l[at].Sources)...), true
		}
		names = names[1:]
	}
	return d(""), false
}

// equal tells whether two directives are, where a nil list is an empty one.
func equal(a, b api.Directive) bool {
	return a.Name == b.Name && slices.Equal(a.Sources, b.Sources)
}

// equals tells whether two lists of directives are.
func equals(a, b []api.Directive) bool { return slices.EqualFunc(a, b, equal) }

// spare is what stands in spare capacity.
const spare = "spare"

// roomy is a copy of l, with spare capacity behind it in which a mark stands.
func roomy[T any](l []T, mark T) []T {
	return append(append(make([]T, 0, len(l)+4), l...), mark, mark, mark, mark)[:len(l)]
}

// roomyList is a copy of directives, all lists of which have spare capacity.
func roomyList(l []api.Directive) []api.Directive {
	c := roomy(l, d(spare))
	for i, x := range l {
		c[i].Sources = roomy(x.Sources, spare)
	}
	return c
}

// untouched tells whether l is as roomy made it of was.
func untouched(l, was []string) bool {
	return slices.Equal(l, was) && slices.Equal(l[:cap(l)][len(l):], []string{spare, spare, spare, spare})
}

// untouchedList tells whether l is as roomyList made it of was.
func untouchedList(l, was []api.Directive) bool {
	mark := d(spare)
	ok := equals(l, was) && equals(l[:cap(l)][len(l):], list(mark, mark, mark, mark))
	for i, x := range l {
		ok = ok && untouched(x.Sources, was[i].Sources)
	}
	return ok
}

// spoil writes over all of l, its spare capacity too.
func spoil[T any](l []T, with T) {
	for i := range l[:cap(l)] {
		l[:cap(l)][i] = with
	}
}

// spoilList writes over all that belongs to directives.
func spoilList(l []api.Directive) {
	for _, x := range l {
		spoil(x.Sources, "spoilt")
	}
	spoil(l, d("spoilt", "spoilt"))
}

// checkApart tells of two lists of Sources that share memory. They are written
// over.
func checkApart(t *testing.T, what string, l []api.Directive) {
	t.Helper()
	mark := func(i int) string { return fmt.Sprint("of ", i) }
	for i, x := range l {
		spoil(x.Sources, mark(i))
	}
	for i, x := range l {
		for _, source := range x.Sources[:cap(x.Sources)] {
			if source != mark(i) {
				t.Errorf("%.300s: the sources of directive %d share memory with those %s", what, i, source)
				return
			}
		}
	}
}

// checkASCII holds ASCII against the chapter's words, twice.
func checkASCII(t *testing.T, s string) {
	t.Helper()
	for range 2 {
		if got := ASCII(s); got != isASCII.MatchString(s) {
			t.Errorf("ASCII(%.300q) = %v", s, got)
		}
	}
}

// checkParse holds Parse, and all that takes what it returns, against the
// chapter's words.
func checkParse(t *testing.T, s string) {
	t.Helper()
	want := isParse(s)
	what := fmt.Sprintf("Parse(%q)", s)
	for range 3 {
		got := Parse(s)
		if !equals(got, want) {
			t.Errorf("%.300s\n   = %.300q\n not %.300q", what, got, want)
			return
		}
		checkApart(t, what, got)
		spoilList(got)
	}
	first, second := Parse(s), Parse(s)
	spoilList(second)
	if !equals(first, want) {
		t.Errorf("%.300s: what was returned has become %.300q", what, first)
	}
	checkASCII(t, s)
	checkText(t, want)
	checkFollows(t, s)
}

// row is a policy, and what is to be read of it.
type row struct {
	s    string
	want []api.Directive
}

// checkRows holds Parse against rows, as they are and between directives of
// another name.
func checkRows(t *testing.T, rows []row) {
	t.Helper()
	for _, c := range rows {
		if got := Parse(c.s); !equals(got, c.want) {
			t.Errorf("Parse(%q) = %q, not %q", c.s, got, c.want)
		}
		checkParse(t, c.s)
		checkParse(t, "x;"+c.s+";X y")
	}
}

// checkFollows is P14.3.
func checkFollows(t *testing.T, s string) {
	t.Helper()
	once := Parse(s)
	text := Text(once)
	if again := Parse(text); !equals(again, once) {
		t.Errorf("Parse(%.300q)\n   = %.300q\n not %.300q", text, again, once)
	}
}

// checkText holds Text against the chapter's words, twice.
func checkText(t *testing.T, l []api.Directive) {
	t.Helper()
	given, want := roomyList(l), isText(l)
	for range 2 {
		if got := Text(given); got != want {
			t.Errorf("Text(%.300q)\n   = %.300q\n not %.300q", l, got, want)
		}
		if !untouchedList(given, l) {
			t.Errorf("Text(%.300q) changed what it was given", l)
		}
	}
}

// checkFind holds Find against the chapter's words. It returns the same again
// after what it returned was written over, and what it returned does not change
// when what it was given is.
func checkFind(t *testing.T, l []api.Directive, names ...string) {
	t.Helper()
	given, givenNames := roomyList(l), roomy(names, spare)
	want, wantOK := isFind(l, names)
	what := fmt.Sprintf("Find(%q, %q)", l, names)
	for range 3 {
		got, ok := Find(given, givenNames...)
		if !equal(got, want) || ok != wantOK {
			t.Errorf("%.300s\n   = %.300q, %v\n not %.300q, %v", what, got, ok, want, wantOK)
			return
		}
		spoil(got.Sources, "spoilt")
		if !untouchedList(given, l) || !untouched(givenNames, names) {
			t.Errorf("%.300s changed what it was given, or returned some of it", what)
			return
		}
	}
	first, _ := Find(given, givenNames...)
	second, _ := Find(given, givenNames...)
	spoil(second.Sources, "spoilt")
	spoilList(given)
	spoil(givenNames, "spoilt")
	if !equal(first, want) {
		t.Errorf("%.300s: what was returned has become %.300q", what, first)
	}
}

// texts calls f with every text of up to n of these pieces.
func texts(pieces []string, n int, f func(string)) {
	f("")
	for last := []string{""}; n > 0; n-- {
		var next []string
		for _, s := range last {
			for _, p := range pieces {
				f(s + p)
				next = append(next, s+p)
			}
		}
		last = next
	}
}

// P14.1: ASCII.
func TestASCII(t *testing.T) {
	for s, want := range map[string]bool{
		"":                  true,
		"a":                 true,
		"\x00":              true,
		"\x7f":              true,
		"\x80":              false,
		"\xff":              false,
		"a\x7f":             true,
		"a\x80":             false,
		"\x80a":             false,
		"é":                 false,
		"aé":                false,
		"éa":                false,
		"\u212a":            false, // the sign of kelvin, of which Unicode makes a k
		"img-src *; a 'b'":  true,
		"img-src *; a 'b'é": false,
		"\t\n\v\f\r ;":      true,
	} {
		if got := ASCII(s); got != want {
			t.Errorf("ASCII(%q) = %v", s, got)
		}
		checkASCII(t, s)
	}
}

// P14.1: ASCII with each byte, at each place of texts of many lengths.
func TestASCIIBytes(t *testing.T) {
	for i := range 256 {
		for n := range 70 {
			s := []byte(strings.Repeat("a", n))
			if !ASCII(string(s)) {
				t.Errorf("%d times `a` are not ASCII", n)
			}
			for at := range s {
				s[at] = byte(i)
				if got := ASCII(string(s)); got != (i < 128) {
					t.Errorf("ASCII of byte %d at %d of %d = %v", i, at, n, got)
				}
				s[at] = 'a'
			}
		}
	}
	long := strings.Repeat("\x7f", 1<<20)
	for _, s := range []string{long, long + "\x80", "\x80" + long, long + "\xff" + long} {
		if got := ASCII(s); got != (s == long) {
			t.Errorf("ASCII of %d bytes = %v", len(s), got)
		}
	}
}

// P14.1: Parse.
func TestParse(t *testing.T) {
	checkRows(t, []row{
		{"", nil},
		{";", nil},
		{";;;;", nil},
		{" ", nil},
		{"\t\n\f\r ", nil},
		{" ; \t;\n;\f ;\r\r", nil},
		{"IMG-src a  b;;img-src c; é", list(d("img-src", "a", "b"))},
		{"a", list(d("a"))},
		{"a;", list(d("a"))},
		{";a", list(d("a"))},
		{";a;", list(d("a"))},
		{" ;; a ;; ", list(d("a"))},
		{"a;b", list(d("a"), d("b"))},
		{"b;a", list(d("b"), d("a"))}, // in order
		{"c z;b;a x y;d", list(d("c", "z"), d("b"), d("a", "x", "y"), d("d"))},
		{"a x;b y z;c", list(d("a", "x"), d("b", "y", "z"), d("c"))},
		{"default-src 'none'; img-src *", list(d("default-src", "'none'"), d("img-src", "*"))},
		{"Script-SRC 'Self' HTTPS://A.B/C 'Self'", list(d("script-src", "'Self'", "HTTPS://A.B/C", "'Self'"))}, // sources as they are, doubles too
		{"a\n'Self';B x;a y", list(d("a", "'Self'"), d("b", "x"))},
		{"a b a B", list(d("a", "b", "a", "B"))},
		{"a b b B b", list(d("a", "b", "b", "B", "b"))},
		{"a b,c;d,e", list(d("a", "b,c"), d("d,e"))}, // cut at `;` alone
		{"a:b=c x&y", list(d("a:b=c", "x&y"))},
		{`"a;b"`, list(d(`"a`), d(`b"`))},
		{"a\vb c\vD", list(d("a\vb", "c\vD"))}, // byte 11 is no blank
		{"A\x00B \x00", list(d("a\x00b", "\x00"))},
		{"@[`{", list(d("@[`{"))},
		{"AZ AZ", list(d("az", "AZ"))},
		{"' a", list(d("'", "a"))},
		{"a\x7f \x7f", list(d("a\x7f", "\x7f"))},
	})
}

// P14.1: Parse with a directive that is not ASCII, which is left out whole and
// alone.
func TestParseNotASCII(t *testing.T) {
	checkRows(t, []row{
		{"é", nil},
		{"\x80", nil},
		{"\xff;\x80", nil},
		{"aé", nil},
		{"a é", nil},
		{"a x é y", nil},
		{"a x\x80", nil},
		{"a \x80x", nil},
		{"\x80 a", nil},
		{" é ", nil},
		{"\u00a0", nil},
		{"a\u00a0b", nil},
		{"a\x85b", nil},
		{"é;a x", list(d("a", "x"))}, // ahead of others
		{"a x;é", list(d("a", "x"))}, // behind them
		{"a x;b é;c", list(d("a", "x"), d("c"))}, // between them
		{"é a;b;c é;d é é;e", list(d("b"), d("e"))},
		{"a é;a x", list(d("a", "x"))}, // one of its name, left out, is no earlier one
		{"A é;é;a \x80;a x;a y", list(d("a", "x"))},
		{"a x;a é;b", list(d("a", "x"), d("b"))},
		{"a;a é;a x", list(d("a"))},
		{"\u212a;k", list(d("k"))}, // the sign of kelvin, of which Unicode makes a k
		{"aé;a", list(d("a"))},
		{"a\u037eb;c", list(d("c"))}, // the Greek question mark, which looks like `;`
		{"a\xbb b", nil},             // a byte that is `;` but for its first bit
	})
}

// P14.1: Parse with one name several times.
func TestParseTwice(t *testing.T) {
	checkRows(t, []row{
		{"a;a", list(d("a"))},
		{"a x;a", list(d("a", "x"))},
		{"a;a x", list(d("a"))}, // the first one, also without sources
		{"a x;a y", list(d("a", "x"))},
		{"a y;a x", list(d("a", "y"))},
		{"a x;a y;a z", list(d("a", "x"))},
		{"a;a;a z", list(d("a"))},
		{"a x;A y", list(d("a", "x"))},
		{"A x;a y", list(d("a", "x"))},
		{"img-SRC;Img-src x;IMG-SRC y;img-src z", list(d("img-src"))},
		{"b;a x;b;a y;c;a z;c x", list(d("b"), d("a", "x"), d("c"))}, // others between them
		{"a x;b y;b z;a;c", list(d("a", "x"), d("b", "y"), d("c"))},
		{"a;b;c;d;e;f;g;h;H x;G;f x;E;D;c x;B;a x", list(d("a"), d("b"), d("c"), d("d"), d("e"), d("f"), d("g"), d("h"))},
		{"script-src;script-src-elem x;script x;cript-src x", list(d("script-src"), d("script-src-elem", "x"), d("script", "x"), d("cript-src", "x"))},
		{"@;`;[;{", list(d("@"), d("`"), d("["), d("{"))}, // no letters, though 32 apart as those are
		{"ab;ba;a b;aab", list(d("ab"), d("ba"), d("a", "b"), d("aab"))},
	})
}

// P14.1: Parse with each of the 256 bytes in a name, in a source and alone.
func TestParseBytes(t *testing.T) {
	for i := range 256 {
		c := single(i)
		low := isLower(c)
		name, source, alone := list(d("x"+low+"y", "z")), list(d("n", "p"+c+"q", "r")), list(d("b"), d(low), d("e"))
		switch {
		case i >= 128:
			name, source, alone = nil, nil, list(d("b"), d("e"))
		case i == ';':
			name, source, alone = list(d("x"), d("y", "z")), list(d("n", "p"), d("q", "r")), list(d("b"), d("e"))
		case strings.Contains("\t\n\f\r ", c):
			name, source, alone = list(d("x", "y", "z")), list(d("n", "p", "q", "r")), list(d("b"), d("e"))
		case low == "b", low == "e":
			alone = list(d("b"), d("e"))
		}
		for s, want := range map[string][]api.Directive{
			"x" + c + "y z":    name,
			"X" + c + "y z":    name,
			"n p" + c + "q r":  source,
			"b;" + c + ";e":    alone,
			"b; " + c + "\t;e": alone,
		} {
			if got := Parse(s); !equals(got, want) {
				t.Errorf("Parse(%q) = %q, not %q", s, got, want)
			}
			checkParse(t, s)
		}
		for _, s := range []string{c, c + c, c + "a", "a" + c, c + "a;b", "a;b" + c, "a " + c, "a " + c + "x;b", "a x" + c + ";b", "a;" + c + "a", "a" + c + ";A" + c + " x", c + ";" + isLower(c) + " x;b"} {
			checkParse(t, s)
		}
	}
}

// P14.1: Parse with each two bytes as names: they are two, unless they are
// letters of unlike case.
func TestParsePairs(t *testing.T) {
	for i := range 128 {
		for j := range 128 {
			a, b := single(i), single(j)
			s := "x" + a + "y;x" + b + "y"
			if got, want := Parse(s), isParse(s); !equals(got, want) {
				t.Errorf("Parse(%q) = %q, not %q", s, got, want)
			}
		}
	}
}

// P14.1: Parse with each kind of blank, alone and in rows, everywhere.
func TestParseBlanks(t *testing.T) {
	kinds := []string{"\t", "\n", "\f", "\r", " "}
	var rows []string
	texts(kinds, 2, func(row string) { rows = append(rows, row) })
	rows = append(rows, "\r\n\t \f", strings.Repeat(" ", 1000), strings.Repeat("\t\n\f\r ", 300))
	for _, row := range rows {
		between := row
		if row == "" {
			between = " "
		}
		for s, want := range map[string][]api.Directive{
			row:                             nil,
			row + ";" + row:                 nil,
			row + "a":                       list(d("a")),
			"a" + row:                       list(d("a")),
			row + "a" + row:                 list(d("a")),
			"a" + between + "x":             list(d("a", "x")),
			row + "A" + between + "X" + row: list(d("a", "X")),
			"a" + between + "x" + between + "y" + between + "z":           list(d("a", "x", "y", "z")),
			row + "a" + row + ";" + row + "b" + row:                       list(d("a"), d("b")),
			"a" + between + "x" + row + ";" + row + "b" + between + "y":   list(d("a", "x"), d("b", "y")),
			row + "a" + row + ";" + row + ";" + row + "A" + between + "x": list(d("a")),
		} {
			if got := Parse(s); !equals(got, want) {
				t.Errorf("Parse(%.300q) = %.300q, not %.300q", s, got, want)
			}
			checkParse(t, s)
		}
	}
}

// P14.1, P14.3: Parse of all short texts.
func TestParseShort(t *testing.T) {
	n := 6
	if testing.Short() {
		n = 4
	}
	texts([]string{"a", "A", "b", ";", " ", "\n", "\x80"}, n, func(s string) {
		if got, want := Parse(s), isParse(s); !equals(got, want) {
			t.Errorf("Parse(%q) = %q, not %q", s, got, want)
		}
		checkFollows(t, s)
	})
	texts([]string{"a;", "A x;", "b y", "é", ";", "\t"}, 4, func(s string) { checkParse(t, s) })
}

// P14.1: Parse of long texts: nothing limits them.
func TestParseLong(t *testing.T) {
	var names, many, sources []string
	for i := range 20000 {
		names = append(names, fmt.Sprintf("n-%d", i))
		many = append(many, fmt.Sprintf("N-%d s-%d t", i, i))
		sources = append(sources, fmt.Sprintf("s-%d", i))
	}
	long := strings.Repeat("x", 70000)
	for _, s := range []string{
		strings.Join(names, ";"),
		strings.Join(many, ";"),
		strings.Join(many, " ; ") + ";" + strings.Join(names, ";"),
		"a " + strings.Join(sources, " ") + ";b " + strings.Join(sources, "\n") + ";A",
		long,
		strings.ToUpper(long) + " " + long + ";" + long + " y",
		long + "a;" + long + "b;" + long + ";" + long + "A;a" + long, // only the last byte is another one
		"a " + long + "é;a " + long,
		strings.Repeat(";", 70000) + "a",
		strings.Repeat("a;", 70000) + "b",
		strings.Repeat(" ", 70000) + "a" + strings.Repeat("\t", 70000) + "b",
		strings.Repeat("é;", 30000) + "a é" + strings.Repeat("é", 30000) + ";a x",
	} {
		if got, want := Parse(s), isParse(s); !equals(got, want) || !equals(Parse(Text(got)), want) {
			t.Errorf("Parse of %d bytes has %d directives, not %d", len(s), len(got), len(want))
		}
	}
	if got := len(Parse(strings.Join(many, ";"))); got != 20000 {
		t.Errorf("of 20000 directives Parse returns %d", got)
	}
}

// P14.2: Text.
func TestText(t *testing.T) {
	for _, c := range []struct {
		l    []api.Directive
		want string
	}{
		{nil, ""},
		{list(), ""},
		{Parse(""), ""},
		{Parse(" ;; "), ""},
		{Parse("a x;b y z;c"), "a x; b y z; c"},
		{Parse("IMG-src a  b;;img-src c; é"), "img-src a b"},
		{list(d("a")), "a"},
		{list(d("a", "x")), "a x"},
		{list(d("a", "x", "y", "x")), "a x y x"},
		{list(d("a"), d("b")), "a; b"},
		{list(d("b", "y"), d("a"), d("c", "z")), "b y; a; c z"},
		{[]api.Directive{{Name: "a", Sources: nil}, {Name: "b", Sources: []string{}}}, "a; b"},
		{list(d("")), ""},
		{list(d(""), d("")), "; "},
		{list(d(""), d("a")), "; a"},
		{list(d("a"), d("")), "a; "},
		{list(d("a"), d(""), d("b")), "a; ; b"},
		{list(d("", "x")), " x"},
		{list(d("a"), d("", "x", "y")), "a;  x y"},
		{list(d("a", "")), "a "},
		{list(d("a", "", "")), "a  "},
		{list(d("", "")), " "},
		{list(d("a", "", "x"), d("b")), "a  x; b"},
		{list(d("a", "x"), d("a", "y"), d("a", "x")), "a x; a y; a x"}, // doubles too
		{list(d("A", "X"), d("a")), "A X; a"},                          // as they are
		{list(d("a b", "c;d"), d(" ", "\t")), "a b c;d;   \t"},
		{list(d("é", "\x80"), d("\x00", "\xff")), "é \x80; \x00 \xff"},
		{list(d("a;", ";"), d(";")), "a; ;; ;"},
	} {
		if got := Text(c.l); got != c.want {
			t.Errorf("Text(%q) = %q, not %q", c.l, got, c.want)
		}
		checkText(t, c.l)
	}
}

// P14.2: Text with each byte, and of much.
func TestTextBytes(t *testing.T) {
	for i := range 256 {
		c := single(i)
		if got, want := Text(list(d(c), d("a"+c, c, c+"b"), d("", c))), c+"; a"+c+" "+c+" "+c+"b;  "+c; got != want {
			t.Errorf("Text = %q, not %q", got, want)
		}
	}
	for _, n := range []int{1, 2, 3, 10, 64, 100, 1000, 20000} {
		got := Text(slices.Repeat(list(d("a", "x")), n))
		if want := strings.Repeat("a x; ", n-1) + "a x"; got != want {
			t.Errorf("Text of %d directives = %.300q", n, got)
		}
		got = Text(list(d("a", slices.Repeat([]string{"x"}, n)...), d(strings.Repeat("b", n))))
		if want := "a" + strings.Repeat(" x", n) + "; " + strings.Repeat("b", n); got != want {
			t.Errorf("Text of %d sources = %.300q", n, got)
		}
	}
}

// P14.2: Find.
func TestFind(t *testing.T) {
	l := Parse("a x;b y z;c")
	made := list(d("a", "1"), d("B", "2"), d("a", "3"), d(""), d("b", "4"), d("", "5"), d("b"), d("é", "6"), d("a b", "7"), d("z"), d("z", "8"))
	for _, c := range []struct {
		l     []api.Directive
		names []string
		want  api.Directive
		ok    bool
	}{
		{l, []string{"q", "c", "b"}, d("c"), true},
		{l, []string{"a"}, d("a", "x"), true},
		{l, []string{"b"}, d("b", "y", "z"), true},
		{l, []string{"c"}, d("c"), true},
		{l, []string{"a", "b", "c"}, d("a", "x"), true},
		{l, []string{"c", "b", "a"}, d("c"), true}, // in the order of the names
		{l, []string{"b", "a"}, d("b", "y", "z"), true},
		{l, []string{"q", "r", "", "B", "b"}, d("b", "y", "z"), true},
		{l, []string{"a", "a"}, d("a", "x"), true},
		{l, []string{"q", "q", "a", "q", "a"}, d("a", "x"), true},
		{l, nil, d(""), false},
		{l, []string{}, d(""), false},
		{l, []string{""}, d(""), false},
		{l, []string{"q"}, d(""), false},
		{l, []string{"q", "r", "x", "y"}, d(""), false}, // sources are no names
		{l, []string{"A"}, d(""), false},                // as they are written
		{l, []string{"B", "C", "a ", " a", "aa", "a x", "a;b"}, d(""), false},
		{nil, nil, d(""), false},
		{nil, []string{"a"}, d(""), false},
		{nil, []string{""}, d(""), false},
		{list(), []string{"", "a"}, d(""), false},
		{list(d("")), []string{""}, d(""), true},
		{list(d("")), []string{"a", ""}, d(""), true},
		{list(d("", "x")), []string{""}, d("", "x"), true},
		{list(d("", "x")), []string{"x"}, d(""), false},
		{list(d("", "x")), nil, d(""), false},
		{made, []string{"a"}, d("a", "1"), true}, // the first of two
		{made, []string{"b"}, d("b", "4"), true},
		{made, []string{"B"}, d("B", "2"), true},
		{made, []string{"A", "b", "B"}, d("b", "4"), true},
		{made, []string{""}, d(""), true},
		{made, []string{"z", "a"}, d("z"), true}, // also without sources
		{made, []string{"é"}, d("é", "6"), true},
		{made, []string{"É", "e", "\xc3"}, d(""), false},
		{made, []string{"a b"}, d("a b", "7"), true},
		{made[2:], []string{"a"}, d("a", "3"), true},
		{made[5:], []string{"a", ""}, d("", "5"), true},
	} {
		got, ok := Find(c.l, c.names...)
		if !equal(got, c.want) || ok != c.ok {
			t.Errorf("Find(%q, %q) = %q, %v", c.l, c.names, got, ok)
		}
		checkFind(t, c.l, c.names...)
	}
	if got, ok := Find(l); !equal(got, d("")) || ok {
		t.Errorf("Find of no names = %q, %v", got, ok)
	}
	if got, ok := Find(l, "c", "b"); !equal(got, d("c")) || !ok {
		t.Errorf("Find of c and b = %q, %v", got, ok)
	}
}

// P14.2: Find of all short rows of names in all short lists.
func TestFindShort(t *testing.T) {
	pieces := []string{"a", "A", "b", "-"}
	var rows [][]string
	texts(pieces, 4, func(s string) {
		row := strings.Split(strings.ReplaceAll(s, "-", ""), "")
		for i, c := range s {
			if c == '-' {
				row = slices.Insert(row, i, "") // the empty name
			}
		}
		rows = append(rows, row)
	})
	for _, row := range rows {
		if len(row) > 3 {
			continue
		}
		var l []api.Directive
		for i, name := range row {
			l = append(l, d(name, slices.Repeat([]string{name + "x"}, i)...))
		}
		for _, names := range rows {
			checkFind(t, l, names...)
		}
	}
}

// P14.2: Find with each byte in a name, and of much.
func TestFindBytes(t *testing.T) {
	var l []api.Directive
	for i := range 256 {
		l = append(l, d("x"+single(i)+"y", single(i)), d(single(i), single(i), "alone"))
	}
	for i := range 256 {
		c := single(i)
		if got, ok := Find(l, "x"+c+"y"); !equal(got, d("x"+c+"y", c)) || !ok {
			t.Errorf("Find of byte %d in a name = %q, %v", i, got, ok)
		}
		if got, ok := Find(l, "x"+c, c); !equal(got, d(c, c, "alone")) || !ok {
			t.Errorf("Find of byte %d = %q, %v", i, got, ok)
		}
	}
	for _, n := range []int{1, 2, 10, 64, 100, 1000, 20000} {
		many := slices.Repeat([]string{"s"}, n)
		l := append(slices.Repeat(list(d("a", "x")), n), d("b", many...), d("b"))
		if got, ok := Find(l, "b"); !equal(got, d("b", many...)) || !ok {
			t.Errorf("Find behind %d directives = %.300q, %v", n, got, ok)
		}
		few := list(d("a"), d("b", "y"))
		if got, ok := Find(few, append(many, "b", "a")...); !equal(got, d("b", "y")) || !ok {
			t.Errorf("Find of %d names = %.300q, %v", n+2, got, ok)
		}
		if got, ok := Find(few, many...); !equal(got, d("")) || ok {
			t.Errorf("Find of %d names = %.300q, %v", n, got, ok)
		}
		long := strings.Repeat("n", n)
		if got, ok := Find(list(d(long+"a"), d(long), d("n"+long), d(long+"b", "x")), long+"b", long); !equal(got, d(long+"b", "x")) || !ok {
			t.Errorf("Find of a name of %d bytes = %.300q, %v", n+1, got, ok)
		}
	}
}

// P14.3: what follows.
func TestWhatFollows(t *testing.T) {
	for _, s := range []string{
		"",
		" ;\t;",
		"a",
		"IMG-src a  b;;img-src c; é",
		"a x;b y z;c",
		";A;a;b;B x;",
		"a\vb\x00 \x7f\v",
		"a\t\n\f\r x ;\r\nb",
		"a é;a x;a y",
		"a; b;c ;  d  e  ",
	} {
		checkFollows(t, s)
		checkParse(t, s)
	}
}

// The rules that hold everywhere: what two calls return shares no memory, and
// none with what they were given; nor is it changed by what is appended to it.
func TestNewMemory(t *testing.T) {
	s := "a x y;b z;c;e 1 2 3 4 5"
	l := Parse(s)
	want := isParse(s)
	for i := range l {
		l[i].Sources = append(l[i].Sources, "more", "and more")
		want[i].Sources = append(slices.Clip(want[i].Sources), "more", "and more")
	}
	if !equals(l, want) {
		t.Errorf("with more sources: %q, not %q", l, want)
	}
	was := Text(l)
	for _, name := range []string{"a", "b", "c", "e"} {
		x, _ := Find(l, name)
		x.Sources = append(x.Sources[:1], "less", "x", "y", "z")
		spoil(x.Sources, "spoilt")
	}
	if got := Text(l); got != was || !equals(l, want) {
		t.Errorf("what was searched has become %q", got)
	}
	if got := Parse(s); !equals(got, isParse(s)) {
		t.Errorf("Parse(%q) = %q", s, got)
	}
}

// The rules that hold everywhere: nothing is kept from call to call: each
// returns the same, whatever was called ahead of it.
func TestNothingKept(t *testing.T) {
	all := []string{"", "a", "A x;b", "b;A y", "a é;b", "é", "a y;b z;A", "c;;c x", "b x y", "a x y", ";", "a;b;c", "A;B x;C"}
	answers := func(s string) string {
		l := Parse(s)
		x, ok := Find(l, "q", "b", "a")
		y, found := Find(l, s)
		return fmt.Sprintf("%q %q %q %v %q %v %v", l, Text(l), x, ok, y, found, ASCII(s))
	}
	var first []string
	for _, s := range all {
		first = append(first, answers(s))
	}
	for range 3 {
		for i, s := range slices.Backward(all) {
			if got := answers(s); got != first[i] {
				t.Errorf("%q was answered %s and is answered %s", s, first[i], got)
			}
		}
	}
}

// P14.1 to P14.3, for many policies by chance.
func TestByChance(t *testing.T) {
	r := rand.New(rand.NewSource(14))
	one := func(l ...string) string { return l[r.Intn(len(l))] }
	name := func() string {
		return one("a", "A", "b", "img-src", "IMG-src", "script-src", "script-src-elem", "default-src", "", one("é", single(r.Intn(256))), single(r.Intn(128)))
	}
	directives, left, found := 0, 0, 0
	for range 20000 {
		s := ""
		for range r.Intn(8) {
			s += one("", "", " ", "\t\n") + name()
			for range r.Intn(4) {
				s += one(" ", "\r", "  ") + one("*", "'Self'", "https://a", name(), name())
			}
			s += one(";", " ;", "; ", ";;")
		}
		checkParse(t, s)
		l := Parse(s)
		directives += len(l)
		left += strings.Count(s, ";") - len(l)
		var made []api.Directive
		for range r.Intn(6) {
			made = append(made, d(name(), slices.Repeat([]string{name()}, r.Intn(3))...))
		}
		names := []string{name(), name(), name(), name()}[:r.Intn(5)]
		checkText(t, made)
		checkFind(t, made, names...)
		checkFind(t, l, names...)
		if _, ok := Find(l, names...); ok {
			found++
		}
		if t.Failed() {
			return
		}
	}
	if directives < 20000 || left < 20000 || found < 2000 {
		t.Errorf("only %d directives, %d left out, %d found", directives, left, found)
	}
}
