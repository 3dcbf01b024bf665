package source

import (
	"math/rand"
	"slices"
	"strings"
	"testing"
)

// The expressions of each Kind, for the tests' rows.
var (
	noExpr  = Expr{}
	anyURL  = Expr{Kind: 1}
	own     = Expr{Kind: 2}
	keyword = Expr{Kind: 5}
)

// ofScheme is an expression of Kind 3.
func ofScheme(scheme string) Expr { return Expr{Kind: 3, Scheme: scheme} }

// ofHost is an expression of Kind 4.
func ofHost(scheme, h, port, path string) Expr {
	return Expr{Kind: 4, Scheme: scheme, Host: h, Port: port, Path: path}
}

// row is an expression, and what is to be read of it.
type row struct {
	s    string
	want Expr
}

// checkRows holds Parse against rows.
func checkRows(t *testing.T, rows []row) {
	t.Helper()
	for _, c := range rows {
		if got := Parse(c.s); got != c.want {
			t.Errorf("Parse(%q) = %q, not %q", c.s, show(got), show(c.want))
		}
		checkParse(t, c.s)
	}
}

// checkKind is that texts are of this Kind.
func checkKind(t *testing.T, kind int, of ...string) {
	t.Helper()
	for _, s := range of {
		got := Parse(s)
		if got.Kind != kind {
			t.Errorf("Parse(%.100q) = %.200q, not of Kind %d", s, show(got), kind)
		}
		if !slices.Contains([]int{3, 4}, kind) && got != (Expr{Kind: kind}) {
			t.Errorf("Parse(%.100q) = %.200q, with more than a Kind", s, show(got))
		}
		checkParse(t, s)
	}
}

// P15.1: the chapter's examples, and each Kind.
func TestParse(t *testing.T) {
	checkRows(t, []row{
		{"https://*.A.b:*/c/", ofHost("https", "*.a.b", "*", "/c/")},
		{"https://*.a.b:*/c/", ofHost("https", "*.a.b", "*", "/c/")},
		{"a:", ofScheme("a")},
		{"*", anyURL},
		{"'self'", own},
		{"'none'", keyword},
		{"https:", ofScheme("https")},
		{"a", ofHost("", "a", "", "")},
		{"a.b", ofHost("", "a.b", "", "")},
		{"*.a", ofHost("", "*.a", "", "")},
		{"*:*", ofHost("", "*", "*", "")},
		{"*/", ofHost("", "*", "", "/")},
		{"http://*", ofHost("http", "*", "", "")},
		{"http://a:80/b/c", ofHost("http", "a", "80", "/b/c")},
		{"", noExpr},
		{"a b", noExpr},
		{"a..b", noExpr},
	})
}

// P15.1: all other texts ahead of a host are told from the star alone.
func TestParseStar(t *testing.T) {
	checkKind(t, 1, "*")
	checkKind(t, 0, "**", " *", "* ", "*\x00", "*a", "a*", "*-", "*_", "*:", "*?", "'*", "*'", "\xef\xbc\x8a", "%2a", "*,", "*;", "*.", "*..", ".*", "*.*", "***", "*://a", "*://*", "*:a", "*a.b", "*b*")
	checkKind(t, 4, "*.a", "*/", "*:80", "*:*", "a://*")
	checkKind(t, 5, "'*'")
}

// P15.1: 'self' in all letters, and what is like it.
func TestParseSelf(t *testing.T) {
	for cases := range 1 << 4 {
		b := []byte("'self'")
		for i := range 4 {
			if cases>>i&1 == 1 {
				b[i+1] -= 'a' - 'A'
			}
		}
		checkKind(t, 2, string(b))
		checkKind(t, 0, string(b[1:]), string(b)+" ", " "+string(b), string(b)+"x")
		checkKind(t, 5, string(b)+"'", "'"+string(b), string(b)+string(b), "' "+string(b[1:]))
		checkKind(t, 4, string(b[1:5]), "a/"+string(b))
		checkKind(t, 3, string(b[1:5])+":")
	}
	checkKind(t, 5, "'\u017felf'", "'sel\ufb00'", "'self '", "' self'", "'se\x00lf'", "'selff'", "'sel'", "'s3lf'", "'%73elf'", "'\xf3elf'", "'\x13elf'", "'[self'")
	checkKind(t, 0, "\"self\"", "`self`", "‘self’", "'self\"", "\"self'")
}

// P15.1: keywords, whatever stands within.
func TestParseKeywords(t *testing.T) {
	checkKind(t, 5, "''", "'''", "''''", "'none'", "'NONE'", "'unsafe-inline'", "'nonce-a+/='", "'sha256-a=='", "'a b'", "' '", "'\x00'", "'é'", "'\xff'", "'a'b'", "'*'", "'a:'", "'http://a'",
		"'/'", "';'", "'"+strings.Repeat("x", 1<<14)+"'", "'"+strings.Repeat("'", 1<<14))
	checkKind(t, 0, "'", "'a", "a'", "'a'b", "a'b'", "''a", "a''", "'a' ", " 'a'", "'a'/", "'a':", "'a':80", "'a'.b", "http://'a'", "'a\"", "\"a'", "'"+strings.Repeat("x", 1<<14))
	for i := range 256 {
		c := single(i)
		checkKind(t, 5, "'"+c+"'", "'"+c+c+"'", "'a"+c+"b'", "'self"+c+"'", "'"+c+"self'", "'"+c+"elf"+c+"'")
		if i != '\'' {
			checkKind(t, 0, "'"+c, "'a"+c, c+"'", c+"a'", "'a'"+c, c+"'a'", "'self'"+c, c+"'self'")
		}
	}
}

// P15.1: schemes alone.
func TestParseSchemes(t *testing.T) {
	checkRows(t, []row{
		{"a:", ofScheme("a")},
		{"Z:", ofScheme("z")},
		{"HTTPS:", ofScheme("https")},
		{"hTtP:", ofScheme("http")},
		{"ws:", ofScheme("ws")},
		{"data:", ofScheme("data")},
		{"localhost:", ofScheme("localhost")},
		{"a.b:", ofScheme("a.b")},
		{"a..b:", ofScheme("a..b")},
		{"a.:", ofScheme("a.")},
		{"a-:", ofScheme("a-")},
		{"a+:", ofScheme("a+")},
		{"a1:", ofScheme("a1")},
		{"A+-.9z:", ofScheme("a+-.9z")},
		{"self:", ofScheme("self")},
		{strings.Repeat("Aa1+-.", 1<<12) + ":", ofScheme(strings.Repeat("aa1+-.", 1<<12))},
	})
	checkKind(t, 0, ":", "::", "1:", "1a:", "+a:", "-a:", ".a:", "_a:", "a_:", "a_b:", "a b:", " a:", "a: ", "a :", "a::", "a:b:", "a:/", "a://", "a:///", "a:\x00", "é:", "aé:", "a\u017f:", "\u212a:", "*:", "a*:", "'a:", "a':", "a:'", "%61:", "a%:", "a,:", "a;:", "a?:", "a:?", "a:#", "a:a", "a:.", "a:-1", "a:+1", strings.Repeat("a", 1<<14)+"_:")
}

// P15.1: the bytes that begin a scheme, and those that go on with it: each of
// all 256.
func TestParseSchemeBytes(t *testing.T) {
	first, later, ahead := 0, 0, 0
	for i := range 256 {
		c := single(i)
		for _, s := range []string{c + ":", c + c + ":", c + "b:", "a" + c + ":", "a" + c + "b:", "ab" + c + ":", "a:" + c, "a" + c, c + "://a", c + "b://a", "a" + c + "://a", "a" + c + "b://a", "a:" + c + "//a", "a:/" + c + "/a", "a:/" + c + "a", "a" + c + "//a", "a://" + c, "a:" + c + "/a", "1" + c + "://a"} {
			checkParse(t, s)
		}
		if Parse(c+":").Kind == 3 {
			first++
		}
		if Parse("a"+c+":").Kind == 3 {
			later++
		}
		if Parse(c+"b://a").Kind == 4 {
			ahead++
		}
	}
	if first != 52 || later != 65 || ahead != 52 {
		t.Errorf("%d and %d bytes begin a scheme, %d go on with it", first, ahead, later)
	}
}

// P15.1: schemes ahead of a host.
func TestParseSchemeAhead(t *testing.T) {
	checkRows(t, []row{
		{"a://b", ofHost("a", "b", "", "")},
		{"A://B", ofHost("a", "b", "", "")},
		{"a.b://c", ofHost("a.b", "c", "", "")},
		{"a+-.1://c", ofHost("a+-.1", "c", "", "")},
		{"a..://c", ofHost("a..", "c", "", "")},
		{"x://1", ofHost("x", "1", "", "")},
		{"https://*", ofHost("https", "*", "", "")},
		{"https://*.a", ofHost("https", "*.a", "", "")},
		{"a://b://c", noExpr},
		{"a://b/://c", ofHost("a", "b", "", "/://c")},
		{"a/://c", ofHost("", "a", "", "/://c")},
		{"a:1/://c", ofHost("", "a", "1", "/://c")},
		{"1/a://c", ofHost("", "1", "", "/a://c")},
		{"a://b:*//c://d:1", ofHost("a", "b", "*", "//c://d:1")},
		{"self://self", ofHost("self", "self", "", "")},
		{strings.Repeat("x+", 1<<13) + "://A", ofHost(strings.Repeat("x+", 1<<13), "a", "", "")},
	})
	checkKind(t, 0, "://", "://a", "//a", "/a", "/", "a://", "a:///", "a:///b", "a:/b", "a:/", "a:b", "a:b/", "1://a", "1a://a", "+a://b", "-://b", ".://b", "a_b://c", "*://a", "*.a://b", "é://a", "a ://b", " a://b", "a: //b", "a:/ /b", "a:// b", "a://b ", "a:\\\\b", "a://:80", "a://:*", "a:///c", "a://'self'", "a://?", "a:1://b", "a%://b", "a:://b", "a::80", "a//b:\x7f", "'a'://b")
}

// P15.1: hosts, with and without a star.
func TestParseHosts(t *testing.T) {
	for _, c := range []struct{ s, want string }{
		{"a", "a"}, {"A", "a"}, {"z", "z"}, {"Z", "z"}, {"0", "0"}, {"9", "9"}, {"-", "-"}, {"_", "_"}, {"a.b", "a.b"}, {"A.B.C", "a.b.c"}, {"a-b_c.1", "a-b_c.1"}, {"-a.-", "-a.-"},
		{"*.a", "*.a"}, {"*.A.b", "*.a.b"}, {"*.-", "*.-"}, {"*.0", "*.0"}, {"*._", "*._"}, {"1.2.3.4", "1.2.3.4"}, {"127.0.0.1", "127.0.0.1"}, {"*.1.2", "*.1.2"}, {"0x7F.1", "0x7f.1"},
		{"localhost", "localhost"}, {"EXAMPLE.com", "example.com"}, {"xn--A", "xn--a"}, {"a.b.c.d.e.f.g.h", "a.b.c.d.e.f.g.h"}, {"self", "self"}, {"none", "none"},
		{strings.Repeat("A.", 1<<13) + "b", strings.Repeat("a.", 1<<13) + "b"}, {"*." + strings.Repeat("Z", 1<<14), "*." + strings.Repeat("z", 1<<14)},
	} {
		checkRows(t, []row{
			{c.s, ofHost("", c.want, "", "")},
			{"HTTP://" + c.s, ofHost("http", c.want, "", "")},
			{c.s + ":8", ofHost("", c.want, "8", "")},
			{c.s + ":*", ofHost("", c.want, "*", "")},
			{c.s + "/", ofHost("", c.want, "", "/")},
			{c.s + "/P", ofHost("", c.want, "", "/P")},
			{"A+b://" + c.s + ":080/Q/", ofHost("a+b", c.want, "080", "/Q/")},
		})
	}
	for _, s := range []string{".", "..", "a.", ".a", "a..b", "a.b.", ".a.b", "a...b", "*.", "*..", "*..a", "*.a.", "*.a..b", "*a", "a*", "a*b", "*-a", "*.*", "*.*.a", "*.a.*", "a.*", "a.*.b", "**", "**.a", "*.a*", "*.*a", "a b", "a,b", "é", "a.é", "a%62", "a~", "a+b", "a@b", "u@a", "[::1]", "a!b", "a\\b", "a|b", "a\"", "<a>", "(a)", "a&b", "a=b", "a$b", "{a}", "a^b", "a`b", "a'b", "a\x00", "a\x7f", "\u212a", "\u017f", "．", "a。b",
		strings.Repeat("a.", 1<<13), strings.Repeat("*.", 1<<13) + "a"} {
		checkKind(t, 0, s, "http://"+s, s+":80", s+"/", s+"/a", "http://"+s+":*/a")
	}
}

// P15.1: the bytes of a host: each of all 256.
func TestParseHostBytes(t *testing.T) {
	alone, within := 0, 0
	for i := range 256 {
		c := single(i)
		for _, s := range []string{c, c + "b", "a" + c, "a" + c + "b", "a." + c, c + ".a", "a." + c + ".b", "*." + c, "*" + c + "a", "*." + c + "a", "*.a" + c, c + ".a.b", "*.a" + c + "b"} {
			for _, around := range [][2]string{{"", ""}, {"http://", ""}, {"", ":80"}, {"", "/"}, {"http://", ":*/a"}} {
				checkParse(t, around[0]+s+around[1])
			}
		}
		if Parse("http://"+c).Kind == 4 {
			alone++
		}
		if Parse("http://a"+c+"b").Kind == 4 {
			within++
		}
	}
	if alone != 65 || within != 66 { // with the star; with the dot, and the slash ahead of a path
		t.Errorf("%d bytes are a host, %d go on with it", alone, within)
	}
}

// P15.1: ports.
func TestParsePorts(t *testing.T) {
	for _, port := range []string{"0", "1", "9", "10", "00", "80", "080", "443", "000", "1234", "0000", "00080", "12345", "65535", "65536", "99999", "00000", "*"} {
		checkRows(t, []row{
			{"a:" + port, ofHost("", "a", port, "")},
			{"*:" + port, ofHost("", "*", port, "")},
			{"*.A:" + port, ofHost("", "*.a", port, "")},
			{"http://A:" + port, ofHost("http", "a", port, "")},
			{"a:" + port + "/", ofHost("", "a", port, "/")},
			{"1:" + port + "/1:2", ofHost("", "1", port, "/1:2")},
		})
		checkKind(t, 0, "a:"+port+":", "a:"+port+":80", "a:"+port+"*", "a:*"+port, "a:"+port+" ", "a: "+port, "a:"+port+"?", "a:"+port+"#", "a:-"+port, "a:+"+port, "a:"+port+".", "a::"+port, ":"+port, "http://:"+port, "a/b?:"+port, "a:"+port+"a", "a:"+port+"\\", "a.:"+port, "a:"+port+"//#")
	}
	for _, port := range []string{"", "123456", "000000", "000080", "999999", "1234567", "a", "8a", "a8", "+1", "-1", "**", "*1", "1*", "0x1", "1.0", "1,0", "1_0", "٣", "\xb2", "%38", "/", strings.Repeat("0", 1<<14)} {
		checkKind(t, 0, "*:"+port, "1:"+port, "http://a:"+port, "a_:"+port, "*.a:"+port+"/", "http://a:"+port+"/x")
	}
	checkKind(t, 3, "a:", "a.b:")
	checkKind(t, 0, "a:/", "a:/b", "a:123456", "a:b", "a:8b", "a:8/?")
}

// P15.1: the bytes of a port: each of all 256.
func TestParsePortBytes(t *testing.T) {
	alone := 0
	for i := range 256 {
		c := single(i)
		for _, s := range []string{c, c + "1", "1" + c, "1" + c + "1", "1234" + c, c + "1234", "12345" + c, "*" + c, c + "*"} {
			checkParse(t, "a:"+s)
			checkParse(t, "*:"+s)
			checkParse(t, "http://a:"+s+"/x")
		}
		if Parse("1:"+c).Kind == 4 {
			alone++
		}
	}
	if alone != 11 {
		t.Errorf("%d bytes are a port", alone)
	}
}

// P15.1: paths.
func TestParsePaths(t *testing.T) {
	for _, path := range []string{"/", "//", "/a", "/A", "/a/", "/a/b", "/a//b", "///", "/.", "/..", "/a/../b", "/%20", "/%", "/%zz", "/%2F", "/'", "/'self'", "/*", "/:", "/:80", "/://", "/@", "/!", "/~", "/\"", "/\\", "/|", "/[]{}^`<>$&()+=-_.!", "/a:b:c",
		"/" + strings.Repeat("Aa/", 1<<12)} {
		checkRows(t, []row{
			{"a" + path, ofHost("", "a", "", path)},
			{"*" + path, ofHost("", "*", "", path)},
			{"*.A" + path, ofHost("", "*.a", "", path)},
			{"a:1" + path, ofHost("", "a", "1", path)},
			{"a:*" + path, ofHost("", "a", "*", path)},
			{"HTTPS://A" + path, ofHost("https", "a", "", path)},
			{"https://a:12345" + path, ofHost("https", "a", "12345", path)},
		})
		checkKind(t, 0, path, "a:"+path, "://a"+path, "a:123456"+path, "a."+path, "*."+path, "a::"+path)
		for _, c := range []string{"?", "#", ";", ",", " ", "\t", "\x00", "\x1f", "\x7f", "\x80", "\xff", "é"} {
			checkKind(t, 0, "a"+path+c, "a"+c+path, "a"+path[:1]+c+path[1:], "http://a:80"+path+c+"/x", "a:*"+path+c)
		}
	}
	checkKind(t, 0, "a\\", "a\\b", "a?b", "a#b", "a;b", "a,b", "a?", "a#", "a/\n", "a/b\r", "http:/a", "http:a/b")
}

// P15.1: the bytes of a path: each of all 256.
func TestParsePathBytes(t *testing.T) {
	in := ""
	for i := range 256 {
		c := single(i)
		for _, s := range []string{c, "/" + c, "/" + c + "b", "/a" + c, "/a" + c + "b", "/a/" + c, "/" + c + "/", "//" + c, "/%" + c, "/a" + c + c} {
			checkParse(t, "a"+s)
			checkParse(t, "*:*"+s)
			checkParse(t, "http://a:80"+s)
		}
		if e := Parse("a/" + c); e.Kind == 4 && e.Path == "/"+c {
			in += c
		}
	}
	if want := "!\"$%&'()*+-./0123456789:<=>@ABCDEFGHIJKLMNOPQRSTUVWXYZ[\\]^_`abcdefghijklmnopqrstuvwxyz{|}~"; in != want {
		t.Errorf("the bytes of a path are %q, not %q", in, want)
	}
}

// P15.1: texts of a million bytes.
func TestParseLong(t *testing.T) {
	const n = 1 << 20
	a, stars := strings.Repeat("a", n), strings.Repeat("*.", n)
	for _, c := range []row{
		{a, ofHost("", a, "", "")},
		{a + ":", ofScheme(a)},
		{a + "://A", ofHost(a, "a", "", "")},
		{strings.Repeat("A", n) + "/A", ofHost("", a, "", "/A")},
		{"*." + a + ":*", ofHost("", "*."+a, "*", "")},
		{"a/" + a, ofHost("", "a", "", "/"+a)},
		{"a/" + a + "#", noExpr},
		{a + "://", noExpr},
		{"a:" + strings.Repeat("0", n), noExpr},
		{strings.Repeat("a.", n), noExpr},
		{strings.Repeat("a.", n) + "b", ofHost("", strings.Repeat("a.", n)+"b", "", "")},
		{stars + "a", noExpr},
		{stars, noExpr},
		{strings.Repeat("a://", n), noExpr},
		{strings.Repeat(":", n), noExpr},
		{"'" + a, noExpr},
		{"'" + a + "'", keyword},
	} {
		if got := Parse(c.s); got != c.want {
			t.Errorf("Parse(%.20q..) of %d bytes is of Kind %d", c.s, len(c.s), got.Kind)
		}
	}
}

// P15.1: each of all bytes at each place of expressions, in the place of
// another and between two.
func TestParseEachByte(t *testing.T) {
	for _, s := range []string{"https://*.A.b:*/c/", "h+t.p-s1://a_b-c.d:12345/e/%2f", "ab:", "a.b:80/c", "'self'", "'none'", "*", "*.a", "*:*/", "a", ""} {
		for i := range len(s) + 1 {
			for b := range 256 {
				checkParse(t, s[:i]+single(b)+s[i:])
				if i < len(s) {
					checkParse(t, s[:i]+single(b)+s[i+1:])
				}
			}
		}
		for i := range len(s) + 1 {
			for j := i; j <= len(s); j++ {
				checkParse(t, s[i:j])
				checkParse(t, s[:i]+s[j:])
				checkParse(t, s[i:j]+s)
			}
		}
	}
}

// P15.1: all short texts.
func TestParseShort(t *testing.T) {
	n := 6
	if testing.Short() {
		n = 4
	}
	for _, s := range texts([]string{"*", "'", "a", ".", ":", "/", "1"}, n) {
		checkParse(t, s)
	}
	for _, s := range texts([]string{"A", "://", "*.", ":1", ":*", "/", "B.", "+", "'"}, n-1) {
		checkParse(t, s)
	}
	for _, s := range texts([]string{"'self'", "'", "a", " ", "'SELF", "*"}, 5) {
		checkParse(t, s)
	}
}

// P15.1: texts by chance.
func TestParseByChance(t *testing.T) {
	r := rand.New(rand.NewSource(15))
	pieces := []string{"http", "https", "WS", "a", "B", "1", "80", "*", "*.", ".", ".", ":", ":", "://", "://", "/", "/", "-", "_", "+", "'", "'self'", "?", "#", ";", ",", "%2f", " ", "~", "é", "\x7f"}
	kinds := [6]int{}
	for range 200000 {
		s := ""
		for range 1 + r.Intn(8) {
			s += pieces[r.Intn(len(pieces))]
		}
		kinds[Parse(s).Kind]++
		checkParse(t, s)
	}
	for kind, n := range kinds {
		if n < 20 {
			t.Errorf("%d texts of Kind %d", n, kind)
		}
	}
}
