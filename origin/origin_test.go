package origin

import (
	"fmt"
	"math"
	"math/rand"
	"regexp"
	"strconv"
	"strings"
	"testing"

	"parapet/api"
	"parapet/host"
	"parapet/url"
)

// ports are the schemes, with their default ports.
func ports() map[string]int {
	return map[string]int{"http": 80, "https": 443, "ws": 80, "wss": 443, "ftp": 21}
}

// most is the greatest number of bytes of a text.
const most = 65536

var (
	isPort    = regexp.MustCompile(`^(0|[1-9][0-9]{0,4})$`)
	isAddress = regexp.MustCompile(`^(0|[1-9][0-9]{0,2})\.(0|[1-9][0-9]{0,2})\.(0|[1-9][0-9]{0,2})\.(0|[1-9][0-9]{0,2})$`)
	isDigits  = regexp.MustCompile(`^([0-9]+|0x[0-9a-f]*)$`)
	isLocal   = regexp.MustCompile(`\.localhost$`)
	isName    = regexp.MustCompile(`^[!"$&'()*+,\-.0-9;=_\x60a-z{}~]+$`)
)

// address is the bytes of an address, as it is written in the one way.
func address(h string) (of [4]int, ok bool) {
	m := isAddress.FindStringSubmatch(h)
	if m == nil {
		return of, false
	}
	for i, part := range m[1:] {
		of[i], _ = strconv.Atoi(part)
		if of[i] > 255 {
			return of, false
		}
	}
	return of, true
}

// isHost is that a host is a result of host.Parse, in the words of chapter 10.
func isHost(h string) bool {
	if _, ok := address(h); ok {
		return true
	}
	last := strings.TrimSuffix(h, ".")
	last = last[strings.LastIndex(last, ".")+1:]
	return isName.MatchString(h) && !isDigits.MatchString(last)
}

// isParse is P12.1 in the chapter's words.
func isParse(s string) (api.Origin, api.Errno) {
	if s == "null" {
		return api.Origin{}, api.OK
	}
	scheme, rest, _ := strings.Cut(s, "://")
	name, digits, written := strings.Cut(rest, ":")
	port, ok := ports()[scheme]
	if len(s) > most || !ok || !isHost(name) {
		return api.Origin{}, api.ErrText
	}
	if !written {
		return api.Origin{Scheme: scheme, Host: name, Port: port}, api.OK
	}
	n, _ := strconv.Atoi(digits)
	if !isPort.MatchString(digits) || n > 65535 || n == port {
		return api.Origin{}, api.ErrText
	}
	return api.Origin{Scheme: scheme, Host: name, Port: n}, api.OK
}

// isText is P12.1 in the chapter's words.
func isText(o api.Origin) string {
	if o.Scheme == "" && o.Host == "" && o.Port == 0 {
		return "null"
	}
	s := o.Scheme + "://" + o.Host
	if port, ok := ports()[o.Scheme]; !ok || port != o.Port {
		s += fmt.Sprintf(":%d", o.Port)
	}
	return s
}

// isTrusted is P12.2 in the chapter's words.
func isTrusted(o api.Origin) bool {
	of, ok := address(o.Host)
	switch {
	case o.Scheme == "https", o.Scheme == "wss", ok && of[0] == 127, o.Host == "localhost":
		return true
	}
	return isLocal.MatchString(o.Host)
}

// of is a text's.
func of(t *testing.T, s string) api.Origin {
	t.Helper()
	u, e := url.Parse(s)
	if e != api.OK {
		t.Fatalf("%q is no URL", s)
	}
	return Of(u)
}

// checkOf is Of a URL, and all that holds for it.
func checkOf(t *testing.T, u api.URL, want api.Origin) {
	t.Helper()
	for range 2 {
		if got := Of(u); got != want {
			t.Errorf("Of(%#v)\n   = %#v\n not %#v", u, got, want)
		}
		if got := Secure(u); got != Trusted(Of(u)) || got != isTrusted(want) {
			t.Errorf("Secure(%#v) = %v", u, got)
		}
	}
	checkOrigin(t, want)
}

// checkOrigin holds Text, Trusted and Same of an Origin against the chapter's
// words, twice.
func checkOrigin(t *testing.T, o api.Origin) {
	t.Helper()
	for range 2 {
		if got, want := Text(o), isText(o); got != want {
			t.Errorf("Text(%#v) = %q, not %q", o, got, want)
		}
		if got, want := Trusted(o), isTrusted(o); got != want {
			t.Errorf("Trusted(%#v) = %v, not %v", o, got, want)
		}
		if got, want := Same(o, o), o != (api.Origin{}); got != want {
			t.Errorf("Same(%#v) = %v, not %v", o, got, want)
		}
	}
}

func checkParse(t *testing.T, s string, want api.Origin, wantE api.Errno) {
	t.Helper()
	if got, e := Parse(s); got != want || e != wantE {
		t.Errorf("Parse(%.100q)\n   = %#v, %d\n not %#v, %d", s, got, e, want, wantE)
	}
}

// checkRefused is that s is refused, with nothing beside the error.
func checkRefused(t *testing.T, s string) {
	t.Helper()
	checkParse(t, s, api.Origin{}, api.ErrText)
}

// checkAll holds Parse against the chapter's words, twice, and what it returned
// against the other calls.
func checkAll(t *testing.T, s string) {
	t.Helper()
	want, e := isParse(s)
	checkParse(t, s, want, e)
	checkParse(t, s, want, e)
	checkOrigin(t, want)
	if e == api.OK && Text(want) != s {
		t.Errorf("the Text of Parse(%q) is %q", s, Text(want))
	}
}

// texts calls f with every text of up to n of these pieces.
func texts(pieces []string, n int, f func(string)) {
	var grow func(string, int)
	grow = func(s string, left int) {
		f(s)
		if left == 0 {
			return
		}
		for _, p := range pieces {
			grow(s+p, left-1)
		}
	}
	grow("", n)
}

// P12.1: Of URLs that are parsed, of which nothing else counts.
func TestOf(t *testing.T) {
	for _, c := range []struct {
		s    string
		want api.Origin
	}{
		{"ftp://a", api.Origin{Scheme: "ftp", Host: "a", Port: 21}},
		{"http://A:81", api.Origin{Scheme: "http", Host: "a", Port: 81}},
		{"https://a:443/x", api.Origin{Scheme: "https", Host: "a", Port: 443}},
		{"http://a", api.Origin{Scheme: "http", Host: "a", Port: 80}},
		{"https://a", api.Origin{Scheme: "https", Host: "a", Port: 443}},
		{"ws://a", api.Origin{Scheme: "ws", Host: "a", Port: 80}},
		{"wss://a", api.Origin{Scheme: "wss", Host: "a", Port: 443}},
		{"ws://a:443", api.Origin{Scheme: "ws", Host: "a", Port: 443}},
		{"ftp://a:0", api.Origin{Scheme: "ftp", Host: "a", Port: 0}},
		{"ftp://a:65535", api.Origin{Scheme: "ftp", Host: "a", Port: 65535}},
		{"http://a:0080", api.Origin{Scheme: "http", Host: "a", Port: 80}},
		{"HTTP:\\\\u:81@0x7f.1:082/p:83?q:84#f:85", api.Origin{Scheme: "http", Host: "127.0.0.1", Port: 82}},
		{"http:eX%41mple.com.", api.Origin{Scheme: "http", Host: "example.com.", Port: 80}},
	} {
		u, e := url.Parse(c.s)
		if e != api.OK {
			t.Errorf("%q is no URL", c.s)
		}
		checkOf(t, u, c.want)
	}
}

// P12.1: Of URLs that are made by hand.
func TestOfByHand(t *testing.T) {
	full := api.URL{User: "u", Pass: "p", Path: "/", HasQ: true, Query: "q", HasF: true, Frag: "f"}
	for _, scheme := range []string{"", "http", "https", "ws", "wss", "ftp", "HTTP", "x", "null", "http:", "\xff", "é"} {
		for _, h := range []string{"", "a", "A", "127.0.0.1", "0x7f.1", "a:1", "a/b", "localhost", "\xff", " "} {
			for _, n := range []int{-2, -1, 0, 21, 80, 443, 65535, 65536, math.MaxInt, math.MinInt} {
				for _, u := range []api.URL{{}, full} {
					u.Scheme, u.Host, u.Port = scheme, h, n
					want := api.Origin{Scheme: scheme, Host: h, Port: n}
					if n == -1 {
						want.Port = ports()[scheme]
					}
					checkOf(t, u, want)
				}
			}
		}
	}
	checkOf(t, api.URL{}, api.Origin{})
	checkOf(t, api.URL{Port: -1}, api.Origin{})
	checkOf(t, full, api.Origin{})
}

// P12.1: the chapter's examples of Text.
func TestTextOfParsed(t *testing.T) {
	for _, c := range [][2]string{
		{"http://A:81", "http://a:81"},
		{"https://a:443/x", "https://a"},
		{"http://u:p@a:80/x?y#z", "http://a"},
		{"ws://a:443", "ws://a:443"},
		{"wss://a:80", "wss://a:80"},
		{"ftp://a:21", "ftp://a"},
		{"ftp://a:0", "ftp://a:0"},
		{"http:1.1:0", "http://1.0.0.1:0"},
		{"http://a.:", "http://a."},
	} {
		if got := Text(of(t, c[0])); got != c[1] {
			t.Errorf("the Text of the origin of %q is %q, not %q", c[0], got, c[1])
		}
	}
}

// P12.1: Text of Origins that no URL has, too.
func TestText(t *testing.T) {
	for _, c := range []struct {
		o    api.Origin
		want string
	}{
		{api.Origin{}, "null"},
		{api.Origin{Port: 1}, "://:1"},
		{api.Origin{Port: -1}, "://:-1"},
		{api.Origin{Port: 80}, "://:80"},
		{api.Origin{Host: "a"}, "://a:0"},
		{api.Origin{Scheme: "http"}, "http://:0"},
		{api.Origin{Scheme: "http", Port: 80}, "http://"},
		{api.Origin{Scheme: "http", Host: "a"}, "http://a:0"},
		{api.Origin{Scheme: "http", Host: "a", Port: 80}, "http://a"},
		{api.Origin{Scheme: "http", Host: "a", Port: 443}, "http://a:443"},
		{api.Origin{Scheme: "http", Host: "a", Port: -1}, "http://a:-1"},
		{api.Origin{Scheme: "http", Host: "a", Port: 65536}, "http://a:65536"},
		{api.Origin{Scheme: "https", Host: "A/b:c", Port: 443}, "https://A/b:c"},
		{api.Origin{Scheme: "HTTP", Host: "a", Port: 80}, "HTTP://a:80"},
		{api.Origin{Scheme: "x", Host: "a"}, "x://a:0"},
		{api.Origin{Scheme: "x", Host: "a", Port: 80}, "x://a:80"},
		{api.Origin{Scheme: "null"}, "null://:0"},
		{api.Origin{Host: "null"}, "://null:0"},
		{api.Origin{Scheme: "http", Host: "\xff\x00é", Port: 7}, "http://\xff\x00é:7"},
		{api.Origin{Scheme: "ftp", Host: "a", Port: math.MaxInt}, "ftp://a:9223372036854775807"},
		{api.Origin{Scheme: "ftp", Host: "a", Port: math.MinInt}, "ftp://a:-9223372036854775808"},
	} {
		if got := Text(c.o); got != c.want {
			t.Errorf("Text(%#v) = %q, not %q", c.o, got, c.want)
		}
		checkOrigin(t, c.o)
	}
	long := strings.Repeat("a", 100000)
	if got := Text(api.Origin{Scheme: long, Host: long, Port: 5}); got != long+"://"+long+":5" {
		t.Errorf("a long Text is of %d bytes", len(got))
	}
}

// P12.1: Parse of what it reads.
func TestParse(t *testing.T) {
	for _, c := range []struct {
		s    string
		want api.Origin
	}{
		{"null", api.Origin{}},
		{"https://a:444", api.Origin{Scheme: "https", Host: "a", Port: 444}},
		{"https://a", api.Origin{Scheme: "https", Host: "a", Port: 443}},
		{"http://a", api.Origin{Scheme: "http", Host: "a", Port: 80}},
		{"ws://a", api.Origin{Scheme: "ws", Host: "a", Port: 80}},
		{"wss://a", api.Origin{Scheme: "wss", Host: "a", Port: 443}},
		{"ftp://a", api.Origin{Scheme: "ftp", Host: "a", Port: 21}},
		{"http://a:443", api.Origin{Scheme: "http", Host: "a", Port: 443}},
		{"https://a:80", api.Origin{Scheme: "https", Host: "a", Port: 80}},
		{"ws://a:21", api.Origin{Scheme: "ws", Host: "a", Port: 21}},
		{"ftp://a:80", api.Origin{Scheme: "ftp", Host: "a", Port: 80}},
		{"http://a:0", api.Origin{Scheme: "http", Host: "a"}},
		{"http://a:65535", api.Origin{Scheme: "http", Host: "a", Port: 65535}},
		{"http://ex.com.", api.Origin{Scheme: "http", Host: "ex.com.", Port: 80}},
		{"http://a..b:1", api.Origin{Scheme: "http", Host: "a..b", Port: 1}},
		{"http://.", api.Origin{Scheme: "http", Host: ".", Port: 80}},
		{"http://1.2.3.4", api.Origin{Scheme: "http", Host: "1.2.3.4", Port: 80}},
		{"http://255.255.255.255:9", api.Origin{Scheme: "http", Host: "255.255.255.255", Port: 9}},
		{"http://0.0.0.0", api.Origin{Scheme: "http", Host: "0.0.0.0", Port: 80}},
		{"http://null", api.Origin{Scheme: "http", Host: "null", Port: 80}},
		{"http://http:81", api.Origin{Scheme: "http", Host: "http", Port: 81}},
		{"http://*", api.Origin{Scheme: "http", Host: "*", Port: 80}},
		{"http://1a", api.Origin{Scheme: "http", Host: "1a", Port: 80}},
		{"http://!\"$&'()*+,-.;=_\x60{}~", api.Origin{Scheme: "http", Host: "!\"$&'()*+,-.;=_\x60{}~", Port: 80}},
	} {
		checkParse(t, c.s, c.want, api.OK)
		checkAll(t, c.s)
	}
}

// P12.1: what Parse refuses.
func TestParseRefuses(t *testing.T) {
	for _, s := range []string{
		"https://a:443", "http://a/", // the chapter's
		"", "NULL", "Null", "nul", "nulL", "null ", " null", "null/", "nullnull", "null:", "null://", "null://a", "null\x00", "\"null\"", "\tnull", "opaque",
		"http://a:80", "ws://a:80", "wss://a:443", "ftp://a:21", // default ports
		"http://a:65536", "http://a:65537", "http://a:99999", "http://a:100000", "http://a:4294967376", "http://a:18446744073709551617", "http://a:99999999999999999999999",
		"http://a:080", "http://a:081", "http://a:00", "http://a:01", "http://a:065535", "http://a:" + strings.Repeat("0", 60000), "http://a:" + strings.Repeat("9", 60000),
		"http://a:", "https://a:", "http://a::", "http://a:1:", "http://a::1", "http://a:1:2", "http://a:b", "http://a:1b", "http://a:b1", "http://a:-1", "http://a:-0", "http://a:+1", "http://a: 1", "http://a:1 ",
		"http://a:0x51", "http://a:8_1", "http://a:8.1", "http://a:%38", "http://a:\u0668", "http://a:1\n", "http://a:\t1",
		"HTTP://a", "Http://a", "httP://a", "HTTPS://a:1", "WS://a", "wSs://a", "FTP://a",
		"x://a", "x://a:1", "://a", "://", ":", "//a", "a", "/", "file://a", "file:///a", "data:a", "mailto:a", "httpss://a", "htt://a", "h2://a", "about:blank", "blob:http://a", "javascript://a", "http.://a", "1http://a", "é://a",
		"http:a", "http:/a", "http:///a", "http:////a", `http:\\a`, `http:/\a`, `http:\/a`, "http//a", "http;//a", "http:", "http:/", "http://", "http:///", "http", "https://", "http//:a", "http ://a", "http: //a", "http:// a",
		"http://:80", "http://:81", "http://:", "http://@", "http://?", "http://#", "http://@:81",
		"http://A", "http://aB", "http://EX.com:81", "http://%61", "http://a%", "http://a%2e", "http://a%20b", "http://%", "http://%2f", "http://a%3a81", "http://a%4g", "http://%41",
		"http://1.1", "http://1", "http://0x7f.1", "http://0x7f.0.0.1", "http://0X1", "http://01.2.3.4", "http://1.2.3.04", "http://1.2.3.4.", "http://4294967296", "http://2130706433", "http://256.0.0.1", "http://1.2.3.256", "http://1.2.3.4.5",
		"http://a.1", "http://a.09", "http://a.0x", "http://0x", "http://1.", "http://0300.1:81", "http://127.1", "http://a.0xg.1", "http://1.1:81",
		"http://[::1]", "http://[::1]:81", "http://[a]", "http://a^b", "http://a|b", "http://<a>", "http://é", "http://%c3%a9", "http://a\x7f", "http://\xff", "http://a\x80", "http://a\x00", "http://\u00ad",
		"http://a/", "http://a//", `http://a\`, "http://a/x", "http://a:81/", "http://a:81/x", `http://a:81\`, "http://a/..", "http://a/.", "http:///a/", "/http://a", "http://a/:81",
		"http://a?", "http://a?q", "http://a:81?", "http://a:81?q", "http://a/?q", "?http://a",
		"http://a#", "http://a#f", "http://a:81#", "http://a:81#f", "http://a/#f", "#http://a", "http://a?#",
		"http://u@a", "http://u:p@a", "http://@a", "http://:@a", "http://:p@a", "http://u@a:81", "http://@a:81", "http://a@", "http://a:81@", "u@http://a", "http://@@a", "u:p@a",
		" http://a", "http://a ", "\thttp://a", "http://a\t", "\nhttp://a", "http://a\n", "http://a\r\n", "\x00http://a", "http://a\x00", "\x1fhttp://a", "http://a\x1f", "\ufeffhttp://a", "http://a\u00a0",
		"ht\ttp://a", "http:\t//a", "http:/\n/a", "http://\ra", "http://a\tb", "http://a\t:81", "http://a:8\n1", "http://a b", "http://a :81", "http://a:81 ",
		"http://a,http://b", "http://a http://b", "http://a://b", "http://http://a", "http://a.b:c:1", "https://a:b:1", "*", "*://a",
	} {
		checkRefused(t, s)
		checkAll(t, s)
	}
}

// P12.1: each scheme, with each scheme's default port and others.
func TestSchemes(t *testing.T) {
	for scheme, usual := range ports() {
		for _, h := range []string{"a", "ex.com", "127.0.0.1", "localhost", "a."} {
			checkParse(t, scheme+"://"+h, api.Origin{Scheme: scheme, Host: h, Port: usual}, api.OK)
			for _, n := range []int{0, 1, 20, 21, 22, 79, 80, 81, 442, 443, 444, 8080, 65534, 65535, 65536} {
				s := fmt.Sprintf("%s://%s:%d", scheme, h, n)
				if n == usual || n == 65536 {
					checkRefused(t, s)
				} else {
					checkParse(t, s, api.Origin{Scheme: scheme, Host: h, Port: n}, api.OK)
				}
				checkAll(t, s)
				checkRefused(t, strings.ToUpper(scheme)+s[len(scheme):])
				checkRefused(t, strings.ToUpper(s[:1])+s[1:])
				checkRefused(t, s[1:])
				checkRefused(t, "x"+s)
				checkRefused(t, scheme+s)
			}
		}
	}
}

// P12.1: all ports there are, and some more.
func TestPorts(t *testing.T) {
	for n := range 66000 {
		for _, scheme := range []string{"http", "wss", "ftp"} {
			s := fmt.Sprintf("%s://a:%d", scheme, n)
			if n > 65535 || n == ports()[scheme] {
				checkRefused(t, s)
				continue
			}
			o := api.Origin{Scheme: scheme, Host: "a", Port: n}
			checkParse(t, s, o, api.OK)
			if got := Text(o); got != s {
				t.Errorf("Text(%#v) = %q", o, got)
			}
			checkRefused(t, fmt.Sprintf("%s://a:0%d", scheme, n))
		}
	}
}

// P12.1: a text of the greatest length, and of one byte more.
func TestLimit(t *testing.T) {
	for scheme, usual := range ports() {
		for _, end := range []string{"", ":1", ":65535"} {
			h := strings.Repeat("a", most-len(scheme)-len("://")-len(end))
			s := scheme + "://" + h + end
			n := usual
			if end != "" {
				n, _ = strconv.Atoi(end[1:])
			}
			want := api.Origin{Scheme: scheme, Host: h, Port: n}
			checkParse(t, s, want, api.OK)
			if len(s) != most || Text(want) != s {
				t.Errorf("the Text of an Origin of %d bytes is of %d", len(s), len(Text(want)))
			}
			want.Host += "a"
			long := scheme + "://" + want.Host + end
			checkRefused(t, long)
			if Text(want) != long {
				t.Error("the Text of more bytes than Parse reads is another one")
			}
		}
	}
	for _, s := range []string{strings.Repeat("x", most), strings.Repeat("null", most/4), strings.Repeat("x", most+1), strings.Repeat(" ", most) + "null", "null" + strings.Repeat("\x00", most), strings.Repeat("a", 1<<22)} {
		checkRefused(t, s)
	}
}

// P12.1: each byte, and each escape, at each place of a text.
func TestBytes(t *testing.T) {
	for _, s := range []string{"null", "http://a", "https://ex.com:8443", "wss://a.b:80", "ws://127.0.0.1:1", "ftp://localhost"} {
		for i := range len(s) + 1 {
			for b := range 256 {
				c := string([]byte{byte(b)})
				checkAll(t, s[:i]+c+s[i:])
				if i < len(s) {
					checkAll(t, s[:i]+c+s[i+1:])
				}
			}
			checkAll(t, s[:i]+"é"+s[i:])
			checkAll(t, s[:i]+"%61"+s[i:])
			checkAll(t, s[:i])
			checkAll(t, s[i:])
		}
	}
}

// P12.1: all short texts of the bytes that mean something.
func TestShort(t *testing.T) {
	texts([]string{"/", `\`, "?", "#", "@", ":", ".", "a", "A", "8", "0", " ", "\n", "%2e", "0x"}, 4, func(s string) {
		checkAll(t, "ws://"+s)
		checkAll(t, "ws:"+s)
	})
	texts([]string{"w", "S", "s", ":", "//", "a", "1", "\t"}, 5, func(s string) { checkAll(t, s) })
	texts([]string{"n", "u", "l", "L"}, 5, func(s string) { checkAll(t, s) })
	texts([]string{"0", "1", ".", "x", "7"}, 6, func(s string) { checkAll(t, "http://"+s) })
}

// P12.1: a host is a result of host.Parse.
func TestHosts(t *testing.T) {
	texts([]string{"0", "1", ".", "x", "a", "256", "A", "%2e", "-", "0x"}, 4, func(h string) {
		p, e := host.Parse(h)
		if (p == h && e == api.OK) != isHost(h) {
			t.Errorf("%q: the tests' own isHost says %v", h, isHost(h))
		}
		_, got := Parse("http://" + h)
		if (got == api.OK) != isHost(h) {
			t.Errorf("Parse of http://%s is %d", h, got)
		}
		if e == api.OK {
			checkParse(t, "ftp://"+p+":80", api.Origin{Scheme: "ftp", Host: p, Port: 80}, api.OK)
		}
	})
}

// P12.2: the chapter's example of Same, and others that are or aren't.
func TestSame(t *testing.T) {
	for _, c := range []struct {
		a, b string
		want bool
	}{
		{"http://a", "http://a:80/x", true},
		{"http://a", "HTTP:\\\\u:p@A:080?q#f", true},
		{"https://a", "https://a:443", true},
		{"ftp://127.1", "ftp://0x7f.0.0.1", true},
		{"http://a", "https://a", false},
		{"http://a", "ws://a", false},
		{"http://a", "http://b", false},
		{"http://a", "http://a.", false},
		{"http://a", "http://a:81", false},
		{"http://a:443", "https://a", false},
		{"http://a:443", "https://a:443", false},
		{"http://ab", "http://a:80", false},
	} {
		a, b := of(t, c.a), of(t, c.b)
		if Same(a, b) != c.want || Same(b, a) != c.want {
			t.Errorf("Same of %q and %q is %v, %v", c.a, c.b, Same(a, b), Same(b, a))
		}
	}
}

// P12.2: Same of Origins that are made by hand, each with each other, and never
// of two zero ones.
func TestSameByHand(t *testing.T) {
	var l []api.Origin
	for _, scheme := range []string{"", "http", "HTTP", "x"} {
		for _, h := range []string{"", "a", "A", "a.", "a:81", "\xff"} { // two with the same Text, too
			for _, n := range []int{0, 80, 81, -1, 65536} {
				l = append(l, api.Origin{Scheme: scheme, Host: strings.Clone(h), Port: n})
			}
		}
	}
	for i, a := range l {
		for j, b := range l {
			want := i == j && i > 0
			if got := Same(a, b); got != want || got != Same(a, b) {
				t.Errorf("Same(%#v, %#v) = %v", a, b, got)
			}
		}
	}
	if Same(api.Origin{}, api.Origin{}) {
		t.Error("two zero Origins are the Same")
	}
}

// P12.2: Trusted of each scheme, with hosts that are trusted by themselves and
// others.
func TestTrusted(t *testing.T) {
	for _, c := range []struct {
		h    string
		want bool
	}{
		{"a", false}, {"ex.com", false}, {"1.2.3.4", false}, {"0.0.0.0", false}, {"0.0.0.127", false}, {"1.127.0.0", false}, {"0.127.0.0", false},
		{"126.255.255.255", false}, {"127.0.0.0", true}, {"127.0.0.1", true}, {"127.9.9.9", true}, {"127.255.255.255", true}, {"128.0.0.0", false}, {"128.0.0.1", false}, {"255.0.0.1", false},
		{"127.0.0.1.x", false}, {"x.127.0.0.x", false}, {"127.x", false}, {"127.0.0.1a", false}, {"127.0.0.0x.a", false},
		{"localhost", true}, {".localhost", true}, {"x.localhost", true}, {"x.y.localhost", true}, {"..localhost", true}, {"localhost.localhost", true}, {"-.localhost", true},
		{"xlocalhost", false}, {"localhost.", false}, {"x.localhost.", false}, {"localhost.x", false}, {"localhosts", false}, {"local.host", false}, {"x-localhost", false}, {"localhos", false}, {"ocalhost", false},
		{"localhost.com", false}, {"localhost..", false}, {"x.localhost.y", false}, {"xlocalhost.localhos", false},
	} {
		for scheme := range ports() {
			want := c.want || scheme == "https" || scheme == "wss"
			for _, port := range []string{"", ":0", ":80", ":443", ":65535"} {
				s := scheme + "://" + c.h + port
				u, e := url.Parse(s)
				if e != api.OK {
					t.Errorf("%q is no URL", s)
				}
				if got, secure := Trusted(Of(u)), Secure(u); got != want || secure != want {
					t.Errorf("%q is trusted %v, secure %v", s, got, secure)
				}
				checkOrigin(t, Of(u))
			}
		}
	}
}

// P12.2: hosts that a URL writes in another way than an Origin.
func TestTrustedAsWritten(t *testing.T) {
	for _, c := range []struct {
		h    string
		want bool
	}{
		{"LOCALHOST", true}, {"LocalHost", true}, {"X.LOCALHOST", true}, {"%6cocalhost", true}, {"x%2elocalhost", true}, {"LOCALHOST.", false}, {"localhost%2e", false},
		{"127.1", true}, {"127.9.9.9.", true}, {"0x7f.1", true}, {"0177.1", true}, {"2130706432", true}, {"2130706431", false}, {"2147483647", true}, {"2147483648", false}, {"0x7fffffff", true}, {"0x80000000", false},
		{"127", false}, {"0x7f", false}, {"126.16777215", false}, {"127.16777215", true}, {"128.1", false}, {"%31%32%37.1", true},
	} {
		for _, scheme := range []string{"http", "ws", "ftp"} {
			u, e := url.Parse(scheme + "://" + c.h)
			if got := Trusted(Of(u)); e != api.OK || got != c.want || Secure(u) != c.want {
				t.Errorf("%s://%s, %d, is trusted %v, secure %v", scheme, c.h, e, got, Secure(u))
			}
			o := api.Origin{Scheme: scheme, Host: c.h, Port: 80}
			if Trusted(o) && c.h != "127.0.0.1" {
				t.Errorf("%#v is trusted, as it is not written in an Origin", o)
			}
			checkOrigin(t, o)
		}
	}
}

// P12.2: addresses with each first byte, in one part and in four.
func TestTrustedAddresses(t *testing.T) {
	for first := range uint32(256) {
		for _, rest := range []uint32{0, 1, 127, 127 << 8, 127 << 16, 0x7f7f7f, 0xffffff} {
			a := first<<24 | rest
			for _, s := range []string{host.Text(a), fmt.Sprint(a), fmt.Sprintf("%#x", a), fmt.Sprintf("%#o", a), fmt.Sprintf("%d.%d", first, rest)} {
				u, e := url.Parse("http://" + s)
				if got := Trusted(Of(u)); e != api.OK || got != (first == 127) || Secure(u) != got {
					t.Errorf("http://%s, %d, is trusted %v", s, e, got)
				}
			}
			o := api.Origin{Host: host.Text(a)}
			if Trusted(o) != (first == 127) {
				t.Errorf("%#v is trusted %v", o, Trusted(o))
			}
			checkOrigin(t, o)
		}
	}
}

// P12.2: Origins and URLs that are made by hand.
func TestTrustedByHand(t *testing.T) {
	schemes := []string{"", "http", "https", "wss", "HTTPS", "Wss", "https:", "https ", "xhttps", "httpswss", "x", "null", "wss,https", "\xff"}
	hosts := []string{"", "a", "localhost", "LOCALHOST", "Localhost", ".localhost", ".LOCALHOST", "x.Localhost", "xlocalhost", "localhost.", "localhost:1", "localhost ", "\nlocalhost", "a/b.localhost", "é.localhost", "\xff.localhost", "localhost\n",
		".localhost\n", "127.0.0.1", "127.1", "127.0.0.01", "0127.0.0.1", "127.0.0.1.", "127.0.0.1 ", " 127.0.0.1", "127.0.0.256", "127.0.0", "127.0.0.1.1", "2130706433", "0x7f000001", "+127.0.0.1", "127.0.0.-1", "127..0.1", "127.0.0.", "128.0.0.1", "126.0.0.1"}
	for _, scheme := range schemes {
		for _, h := range hosts {
			for _, n := range []int{0, 80, 127, -1, math.MinInt} {
				o := api.Origin{Scheme: scheme, Host: h, Port: n}
				want := scheme == "https" || scheme == "wss" || h == "127.0.0.1" || h == "localhost" || len(h) > 9 && h[len(h)-10:] == ".localhost"
				if got := Trusted(o); got != want {
					t.Errorf("Trusted(%#v) = %v", o, got)
				}
				checkOrigin(t, o)
				if got := Secure(api.URL{Scheme: scheme, Host: h, Port: n, User: "localhost", Path: "/.localhost"}); got != want {
					t.Errorf("Secure of %#v is %v", o, got)
				}
			}
		}
	}
	if Trusted(api.Origin{}) || Secure(api.URL{}) || Secure(api.URL{Port: -1, Path: "/"}) {
		t.Error("the zero Origin is trusted")
	}
}

// P12.2: Secure of the chapter's examples.
func TestSecure(t *testing.T) {
	for s, want := range map[string]bool{
		"wss://a": true, "https://a": true, "http://127.9.9.9": true, "http://x.localhost": true, "http://a": false, "ws://a": false,
		"ftp://a": false, "ftp://localhost/x": true, "http://localhost@a/": false, "http://a/.localhost": false, "http://a?localhost": false, "http://a#.localhost": false, "http://a@localhost": true,
	} {
		u, e := url.Parse(s)
		if got := Secure(u); e != api.OK || got != want || Trusted(Of(u)) != want {
			t.Errorf("Secure of %q is %v", s, got)
		}
	}
}

// P12.3: what is written of a URL's Origin is read as that Origin.
func TestBack(t *testing.T) {
	for scheme := range ports() {
		for _, slashes := range []string{"", "/", "//", `\\\`} {
			for _, user := range []string{"", "u@", "u:80@", "@@"} {
				for _, h := range []string{"a", "A.b", "a..B.", "127.1", "0x7f.0.0.01", "%41%2e", "*", ".", "localhost", "4294967295"} {
					for _, port := range []string{"", ":", ":0", ":21", ":80", ":443", ":00443", ":65535", ":1"} {
						for _, behind := range []string{"", "/", "/x?y#z", "?a://b:1", "#"} {
							checkBack(t, scheme+":"+slashes+user+h+port+behind)
						}
					}
				}
			}
		}
	}
}

// checkBack is P12.3 of a URL's text, if it is one.
func checkBack(t *testing.T, s string) bool {
	t.Helper()
	u, e := url.Parse(s)
	if e != api.OK {
		return false
	}
	o := Of(u)
	checkOf(t, u, api.Origin{Scheme: u.Scheme, Host: u.Host, Port: url.Port(u)})
	checkParse(t, Text(o), o, api.OK)
	if back, _ := Parse(Text(o)); !Same(back, o) {
		t.Errorf("the Origin of %q, written and read, is not the Same", s)
	}
	checkAll(t, Text(o))
	checkAll(t, s)
	return true
}

// P12.1 to P12.3, for many texts by chance.
func TestByChance(t *testing.T) {
	r := rand.New(rand.NewSource(12))
	one := func(l ...string) string { return l[r.Intn(len(l))] }
	good := 0
	for range 100000 {
		h := ""
		for range 1 + r.Intn(4) {
			h += one("a", "B", "1", "0", ".", ".", "127", "0x7f", "localhost", "%41", "-", "é", "_", string(rune(r.Intn(256))))
		}
		s := one("http", "https", "ws", "wss", "ftp", "HTTP", "x") + one("://", "://", ":", ":/", `:\\`) + one("", "", "", "u@", "u:p@") + h
		s += one("", "", ":", ":0", ":80", ":443", ":21", fmt.Sprint(":", r.Intn(70000)), ":007") + one("", "", "/", "/x", "?", "#")
		if checkBack(t, s) {
			good++
		}
		checkAll(t, s)
		if t.Failed() {
			return
		}
	}
	if good < 20000 {
		t.Errorf("only %d of the texts are URLs", good)
	}
}

// P12.3, and the limit of P12.1: a Text that is longer than the text of its URL
// was, and beyond the limit, is refused as any other text is.
func TestBackBeyondLimit(t *testing.T) {
	for _, c := range []struct {
		begin string
		want  api.Errno
	}{{"http://", api.OK}, {"http:", api.ErrText}} {
		h := strings.Repeat("a", most-len(c.begin))
		o := of(t, c.begin+h)
		back, e := Parse(Text(o))
		if o.Host != h || Text(o) != "http://"+h || e != c.want || (e == api.OK) != (back == o) {
			t.Errorf("an Origin with a Text of %d bytes is read as %d", len(Text(o)), e)
		}
	}
}
