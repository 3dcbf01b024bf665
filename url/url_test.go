package url

import (
	"fmt"
	"math"
	"math/big"
	"regexp"
	"strings"
	"testing"
	"unicode/utf8"

	"parapet/api"
	"parapet/host"
)

// ports are the schemes, with their default ports.
func ports() map[string]int {
	return map[string]int{"http": 80, "https": 443, "ws": 80, "wss": 443, "ftp": 21}
}

// most is the greatest number of bytes of a text.
const most = 65536

// These are the bytes from 33 to 126 that the chapter's sets encode.
const (
	encodedInFrag  = "\"<>\x60"
	encodedInQuery = "\"#'<>"
	encodedInPath  = "\"#<>?^\x60{}"
	encodedInUser  = encodedInPath + "/:;=@[\\]|"
)

var (
	whole    = regexp.MustCompile(`(?s)^([A-Za-z][A-Za-z0-9+.-]*):[/\\]*([^/\\?#]*)([^?#]*)(\?[^#]*)?(#.*)?$`)
	place    = regexp.MustCompile(`(?s)^(?:([^:]*)(?::(.*))?@)?([^@:]*)(?::([0-9]*))?$`)
	divide   = regexp.MustCompile(`[/\\]`)
	isDot    = regexp.MustCompile(`^(\.|%2[eE])$`)
	isDouble = regexp.MustCompile(`^(\.|%2[eE])(\.|%2[eE])$`)
)

// coded is s, encoded, with the set that has these bytes.
func coded(s, set string) string {
	var out strings.Builder
	for _, c := range []byte(s) {
		if c < 33 || c > 126 || strings.Contains(set, string(rune(c))) {
			fmt.Fprintf(&out, "%%%02X", c)
		} else {
			out.WriteByte(c)
		}
	}
	return out.String()
}

// prepared is the preparation in the chapter's words.
func prepared(s string) string {
	for s != "" && s[0] <= 32 {
		s = s[1:]
	}
	for s != "" && s[len(s)-1] <= 32 {
		s = s[:len(s)-1]
	}
	for _, c := range []string{"\t", "\n", "\r"} {
		s = strings.Join(strings.Split(s, c), "")
	}
	return s
}

// isPort is the port in the chapter's words.
func isPort(scheme, digits string) (int, bool) {
	if digits == "" {
		return -1, true
	}
	n, _ := new(big.Int).SetString(digits, 10)
	if n.Cmp(big.NewInt(65535)) > 0 {
		return 0, false
	}
	if int(n.Int64()) == ports()[scheme] {
		return -1, true
	}
	return int(n.Int64()), true
}

// isPath is the path in the chapter's words.
func isPath(p string) string {
	if p == "" {
		return "/"
	}
	segments := divide.Split(p[1:], -1)
	var out []string
	for i, s := range segments {
		switch {
		case isDouble.MatchString(s):
			if len(out) > 0 {
				out = out[:len(out)-1]
			}
		case !isDot.MatchString(s):
			out = append(out, coded(s, encodedInPath))
			continue
		}
		if i == len(segments)-1 {
			out = append(out, "")
		}
	}
	if len(out) == 0 {
		return "/"
	}
	var text strings.Builder
	for _, s := range out {
		text.WriteString("/" + s)
	}
	return text.String()
}

// isParse is P11.2 and P11.3 in the chapter's words.
func isParse(s string) (api.URL, api.Errno) {
	if len(s) > most || !utf8.ValidString(s) {
		return api.URL{}, api.ErrText
	}
	m := whole.FindStringSubmatch(prepared(s))
	if m == nil {
		return api.URL{}, api.ErrText
	}
	u := api.URL{Scheme: strings.ToLower(m[1]), Path: isPath(m[3])}
	if _, ok := ports()[u.Scheme]; !ok {
		return api.URL{}, api.ErrText
	}
	a := place.FindStringSubmatch(m[2])
	if a == nil {
		return api.URL{}, api.ErrText
	}
	u.User, u.Pass = coded(a[1], encodedInUser), coded(a[2], encodedInUser)
	h, e := host.Parse(a[3])
	n, ok := isPort(u.Scheme, a[4])
	if e != api.OK || !ok {
		return api.URL{}, api.ErrText
	}
	u.Host, u.Port = h, n
	if m[4] != "" {
		u.HasQ, u.Query = true, coded(m[4][1:], encodedInQuery)
	}
	if m[5] != "" {
		u.HasF, u.Frag = true, coded(m[5][1:], encodedInFrag)
	}
	return u, api.OK
}

// isText is P11.4 in the chapter's words.
func isText(u api.URL) string {
	s := u.Scheme + "://"
	if u.User != "" || u.Pass != "" {
		s += u.User
		if u.Pass != "" {
			s += ":" + u.Pass
		}
		s += "@"
	}
	s += u.Host
	if u.Port != -1 {
		s += fmt.Sprintf(":%d", u.Port)
	}
	s += u.Path
	if u.HasQ {
		s += "?" + u.Query
	}
	if u.HasF {
		s += "#" + u.Frag
	}
	return s
}

func checkParse(t *testing.T, s string, want api.URL, wantE api.Errno) {
	t.Helper()
	if got, e := Parse(s); got != want || e != wantE {
		t.Errorf("Parse(%q)\n   = %#v, %d\n not %#v, %d", s, got, e, want, wantE)
	}
}

// checkRefused is that s is refused, with nothing beside the error.
func checkRefused(t *testing.T, s string) {
	t.Helper()
	checkParse(t, s, api.URL{}, api.ErrText)
}

// checkText is that s is parsed, and that the Text of what it is is this.
func checkText(t *testing.T, s, want string) {
	t.Helper()
	u, e := Parse(s)
	if got := Text(u); e != api.OK || got != want {
		t.Errorf("Parse(%q) is %q, %d, not %q", s, got, e, want)
	}
}

// checkAll holds Parse against the chapter's words, twice, and what it returned
// against the other calls.
func checkAll(t *testing.T, s string) {
	t.Helper()
	u, e := isParse(s)
	checkParse(t, s, u, e)
	checkParse(t, s, u, e)
	if e == api.OK {
		checkReturned(t, u)
	}
}

// checkReturned is what holds for each URL that Parse returned: P11.5, and that
// the other calls agree with it.
func checkReturned(t *testing.T, u api.URL) {
	t.Helper()
	s := Text(u)
	if want := isText(u); s != want || s != Text(u) {
		t.Errorf("Text(%#v) = %q, not %q", u, s, want)
	}
	if len(s) <= most {
		checkParse(t, s, u, api.OK)
	}
	usual, ok := Default(u.Scheme)
	if want, is := ports()[u.Scheme]; !ok || !is || usual != want || u.Port == usual {
		t.Errorf("Default(%q) = %d, %v, of %#v", u.Scheme, usual, ok, u)
	}
	want := u.Port
	if want == -1 {
		want = usual
	}
	if got := Port(u); got != want {
		t.Errorf("Port(%#v) = %d, not %d", u, got, want)
	}
}

// P11.1: Default of the schemes.
func TestDefault(t *testing.T) {
	for scheme, want := range ports() {
		for range 2 {
			if got, ok := Default(scheme); got != want || !ok {
				t.Errorf("Default(%q) = %d, %v, not %d", scheme, got, ok, want)
			}
		}
	}
}

// P11.1: Default of what is none of the schemes.
func TestDefaultOfNone(t *testing.T) {
	none := []string{"", " ", ":", "h", "ht", "htt", "http2", "httpss", "w", "wsss", "ft", "ftps", "sftp", "file", "mailto", "data", "blob", "about",
		"javascript", "gopher", "80", "443", "21", "ahttp", "http\x00", "http\xff", "\xff", "\x00", "hłtp", strings.Repeat("http", 100000)}
	for scheme := range ports() {
		none = append(none, strings.ToUpper(scheme), strings.ToUpper(scheme[:1])+scheme[1:], scheme+":", scheme+"://", " "+scheme, scheme+" ", scheme+"\n", scheme+scheme)
		for i := range scheme {
			none = append(none, scheme[:i]+strings.ToUpper(scheme[i:i+1])+scheme[i+1:])
			none = append(none, scheme[:i]+"x"+scheme[i+1:])
		}
	}
	for _, s := range none {
		if got, ok := Default(s); got != 0 || ok {
			t.Errorf("Default(%.40q) = %d, %v", s, got, ok)
		}
	}
}

// P11.1: Port.
func TestPort(t *testing.T) {
	for _, c := range []struct {
		u    api.URL
		want int
	}{
		{api.URL{}, 0},
		{api.URL{Port: -1}, 0},
		{api.URL{Port: 5}, 5},
		{api.URL{Scheme: "http", Port: 81}, 81},
		{api.URL{Scheme: "http", Port: 80}, 80},
		{api.URL{Scheme: "http", Port: 0}, 0},
		{api.URL{Scheme: "http"}, 0},
		{api.URL{Scheme: "http", Port: -1}, 80},
		{api.URL{Scheme: "https", Port: -1}, 443},
		{api.URL{Scheme: "ws", Port: -1}, 80},
		{api.URL{Scheme: "wss", Port: -1}, 443},
		{api.URL{Scheme: "ftp", Port: -1}, 21},
		{api.URL{Scheme: "HTTP", Port: -1}, 0},
		{api.URL{Scheme: "file", Port: -1}, 0},
		{api.URL{Scheme: "file", Port: 7}, 7},
		{api.URL{Scheme: "https", Port: -2}, -2},
		{api.URL{Scheme: "https", Port: 65536}, 65536},
		{api.URL{Scheme: "https", Port: math.MaxInt}, math.MaxInt},
		{api.URL{Scheme: "https", Port: math.MinInt}, math.MinInt},
		{api.URL{Scheme: "wss", User: "u", Pass: "p", Host: "a", Port: -1, Path: "/", HasQ: true, Query: "q", HasF: true, Frag: "f"}, 443},
	} {
		for range 2 {
			if got := Port(c.u); got != c.want {
				t.Errorf("Port(%#v) = %d, not %d", c.u, got, c.want)
			}
		}
	}
}

// P11.1: Port of what is parsed.
func TestPortOfParsed(t *testing.T) {
	for _, c := range []struct {
		s    string
		want int
	}{
		{"http://u:p@a:81/x?y#z", 81},
		{"https://a", 443},
		{"http://a", 80},
		{"ws://a", 80},
		{"wss://a", 443},
		{"ftp://a", 21},
		{"ftp://a:", 21},
		{"ftp://a:21", 21},
		{"ftp://a:0", 0},
		{"HTTPS://a:080", 80},
		{"https://a:443", 443},
		{"https://a:65535", 65535},
	} {
		u, e := Parse(c.s)
		if got := Port(u); e != api.OK || got != c.want {
			t.Errorf("Port of %q, %d, is %d, not %d", c.s, e, got, c.want)
		}
	}
}

// P11.4: Text of URLs that no call of Parse returns, too.
func TestText(t *testing.T) {
	for _, c := range []struct {
		u    api.URL
		want string
	}{
		{api.URL{}, "://:0"},
		{api.URL{Port: -1}, "://"},
		{api.URL{Scheme: "http", Host: "a", Port: -1, Path: "/"}, "http://a/"},
		{api.URL{Scheme: "http", Host: "a", Path: "/"}, "http://a:0/"},
		{api.URL{Scheme: "http", Host: "a", Port: 80, Path: "/"}, "http://a:80/"},
		{api.URL{Scheme: "http", Host: "a", Port: 81, Path: "/"}, "http://a:81/"},
		{api.URL{Scheme: "http", Host: "a", Port: -2, Path: "/"}, "http://a:-2/"},
		{api.URL{Scheme: "http", Host: "a", Port: math.MaxInt, Path: "/"}, "http://a:9223372036854775807/"},
		{api.URL{Scheme: "http", Host: "a", Port: math.MinInt, Path: "/"}, "http://a:-9223372036854775808/"},
		{api.URL{Scheme: "http", User: "u", Host: "a", Port: -1, Path: "/"}, "http://u@a/"},
		{api.URL{Scheme: "http", Pass: "p", Host: "a", Port: -1, Path: "/"}, "http://:p@a/"},
		{api.URL{Scheme: "http", User: "u", Pass: "p", Host: "a", Port: -1, Path: "/"}, "http://u:p@a/"},
		{api.URL{Scheme: "http", Host: "a", Port: -1, Path: "/", HasQ: true}, "http://a/?"},
		{api.URL{Scheme: "http", Host: "a", Port: -1, Path: "/", HasF: true}, "http://a/#"},
		{api.URL{Scheme: "http", Host: "a", Port: -1, Path: "/", HasQ: true, HasF: true}, "http://a/?#"},
		{api.URL{Scheme: "http", Host: "a", Port: -1, Path: "/", Query: "q", Frag: "f"}, "http://a/"},
		{api.URL{Scheme: "http", Host: "a", Port: -1, Path: "/", HasQ: true, Query: "q", Frag: "f"}, "http://a/?q"},
		{api.URL{Scheme: "http", Host: "a", Port: -1, Path: "/", Query: "q", HasF: true, Frag: "f"}, "http://a/#f"},
		{api.URL{Scheme: "http", Host: "a", Port: -1}, "http://a"},
		{api.URL{Scheme: "X Y", User: "@ /", Pass: ":\xff", Host: "A:#", Port: 7, Path: "p\x00/..", HasQ: true, Query: "#é", HasF: true, Frag: "#"},
			"X Y://@ /::\xff@A:#:7p\x00/..?#é##"},
		{api.URL{Scheme: "s", User: "u", Pass: "p", Host: "h", Port: 1, Path: "/p", HasQ: true, Query: "q", HasF: true, Frag: "f"}, "s://u:p@h:1/p?q#f"},
	} {
		for range 2 {
			if got := Text(c.u); got != c.want {
				t.Errorf("Text(%#v) = %q, not %q", c.u, got, c.want)
			}
		}
	}
}

// P11.4: Text of URLs in which each part is there or not.
func TestTextOfParts(t *testing.T) {
	for bits := range 1 << 10 {
		part := func(i int, s string) string {
			if bits>>i&1 == 0 {
				return ""
			}
			return s
		}
		u := api.URL{
			Scheme: part(0, "wss"), User: part(1, "me"), Pass: part(2, "pw"), Host: part(3, "b.c"), Port: []int{-1, 0, 443, 8080}[bits>>8],
			Path: part(4, "/x/y"), HasQ: bits>>5&1 == 1, Query: part(6, "q=1"), HasF: bits>>7&1 == 1, Frag: part(6, "fr"),
		}
		if got, want := Text(u), isText(u); got != want {
			t.Errorf("Text(%#v) = %q, not %q", u, got, want)
		}
	}
}
