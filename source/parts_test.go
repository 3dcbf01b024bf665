package source

import (
	"math"
	"math/rand"
	"strconv"
	"strings"
	"testing"

	"parapet/api"
)

// patternRow is a pattern, and some of what it matches and of what it doesn't.
type patternRow struct {
	pattern string
	yes, no []string
}

// checkPatterns holds a call against rows.
func checkPatterns(t *testing.T, rows []patternRow, call func(pattern, s string) bool, check func(pattern, s string)) {
	t.Helper()
	for _, c := range rows {
		for _, s := range c.yes {
			if !call(c.pattern, s) {
				t.Errorf("%q doesn't match %q", c.pattern, s)
			}
			check(c.pattern, s)
		}
		for _, s := range c.no {
			if call(c.pattern, s) {
				t.Errorf("%q matches %q", c.pattern, s)
			}
			check(c.pattern, s)
		}
	}
}

// P15.2: schemes, each against each.
func TestScheme(t *testing.T) {
	l := []string{"http", "https", "ws", "wss", "ftp", "data", "a", ""}
	for i, want := range []string{
		"11000000",
		"01000000",
		"11110000",
		"01010000",
		"00001000",
		"00000100",
		"00000010",
		"00000001",
	} {
		for j, b := range l {
			if got := Scheme(l[i], b); got != (want[j] == '1') {
				t.Errorf("Scheme(%q, %q) = %v", l[i], b, got)
			}
			checkScheme(t, l[i], b)
		}
	}
	more := append(l, "HTTP", "Https", "WS", "wsS", "http:", "https:", "http ", " http", "httpss", "htt", "h", "w", "s", "wsss", "*", "\x00", "é", "\xff", "FTP", "ftps", "self")
	pairs(more, more, func(a, b string) { checkScheme(t, a, b) })
	for _, s := range l {
		for i := range 256 {
			for _, other := range l {
				checkScheme(t, s+single(i), other)
				checkScheme(t, other, s+single(i))
				checkScheme(t, single(i)+s, other)
				checkScheme(t, other, single(i)+s)
			}
			checkScheme(t, s+single(i), s+single(i))
		}
	}
}

// P15.2: hosts that match, and those that don't.
func TestHost(t *testing.T) {
	checkPatterns(t, []patternRow{
		{"*.a", []string{"x.a", "x.y.a", "1.2.3.a", "-.a", "*.a", "x..a", "..a", ".a.a", "\x00.a", "é.a"}, []string{"a", ".a", "", "xa", "x.a.", "x.ab", "x.A", "x.b", "a.x", "*", "*.", "x.a.b", "1.2.3.4"}},
		{"*", []string{"a", "a.b", "1.2.3.4", "127.0.0.1", "*", "*.a", ".", " ", "\x00", "é", "localhost"}, []string{""}},
		{"a", []string{"a"}, []string{"", "A", "aa", "b", "x.a", "a.", ".a", "a ", "*"}},
		{"a.b", []string{"a.b"}, []string{"", "b", "x.a.b", "a.b.", "a-b", "A.b", ".a.b", "a.", "*.b"}},
		{"A", []string{"A"}, []string{"a", ""}},
		{"1.2.3.4", nil, []string{"1.2.3.4", "", "1.2.3.5", "x.1.2.3.4", "01.2.3.4"}},
		{"127.0.0.1", []string{"127.0.0.1"}, []string{"", "127.0.0.2", "127.1", "1.0.0.127", "x.127.0.0.1", "127.0.0.1."}},
		{"127.0.0.2", nil, []string{"127.0.0.2", "127.0.0.1", ""}},
		{"127.1", []string{"127.1"}, []string{"127.0.0.1"}},
		{"0.0.0.0", nil, []string{"0.0.0.0"}},
		{"255.255.255.255", nil, []string{"255.255.255.255"}},
		{"256.0.0.1", []string{"256.0.0.1"}, nil},
		{"1.2.3", []string{"1.2.3"}, []string{"1.2.0.3"}},
		{"1.2.3.4.5", []string{"1.2.3.4.5"}, nil},
		{"01.2.3.4", []string{"01.2.3.4"}, []string{"1.2.3.4"}},
		{"1.2.3.4.", []string{"1.2.3.4."}, []string{"1.2.3.4"}},
		{"*.3.4", []string{"x.3.4", "1.2.3.3.4", "3.3.4", "02.1.3.4", "256.1.3.4"}, []string{"1.2.3.4", "3.4", ".3.4", ""}},
		{"*.0.0.1", []string{"x.0.0.1", "0127.0.0.1"}, []string{"127.0.0.1", "0.0.1", "1.0.0.1"}},
		{"*.2.3.4", []string{"1.1.2.3.4"}, []string{"1.2.3.4"}},
		{"*.1", []string{"127.1", "a.1", "127.0.0.0.1"}, []string{"127.0.0.1", "1", ".1"}},
		{"*.", []string{"a.", "..", "1.2.3.4.", "*."}, []string{"", ".", "a", "*", "1.2.3.4"}},
		{"*..", []string{"a..", "..."}, []string{"..", "a."}},
		{"*.*", []string{"a.*", "*.*"}, []string{".*", "*", "a.b"}},
		{"*.*.a", []string{"x.*.a"}, []string{"x.y.a", "*.a", ".*.a"}},
		{"*a", []string{"*a"}, []string{"a", "xa", "x.a", "aa"}},
		{"**", []string{"**"}, []string{"*", "a", "ab"}},
		{".a", []string{".a"}, []string{"a", "x.a"}},
		{"a.*", []string{"a.*"}, []string{"a.b", "a.", "a"}},
		{"a*", []string{"a*"}, []string{"a", "ab"}},
		{"", nil, []string{"", "a", ".", "*", "1.2.3.4", "127.0.0.1"}},
		{"*x.a", []string{"*x.a"}, []string{"yx.a", "x.a"}},
		{" *", []string{" *"}, []string{"a", "*"}},
		{"*.\x00", []string{"a.\x00"}, []string{"a.", ".\x00"}},
	}, Host, func(a, b string) { checkHost(t, a, b) })
}

// P15.2: all short patterns against all short hosts.
func TestHostShort(t *testing.T) {
	l := texts([]string{"*", ".", "*.", "a", "1.2.3", ".4", "127.0.0.1"}, 3)
	pairs(l, l, func(a, b string) { checkHost(t, a, b) })
	l = texts([]string{"*", ".", "a", "1"}, 4)
	pairs(l, l, func(a, b string) { checkHost(t, a, b) })
	l = texts([]string{".", "0", "1", "127", "256", "*."}, 4)
	for _, a := range l {
		checkHost(t, a, a)
		checkHost(t, "*", a)
		checkHost(t, "*."+a, "x."+a)
		checkHost(t, "*."+a, "1."+a)
		checkHost(t, a, a+".1.2")
	}
}

// P15.2: each of all bytes in a host and in a pattern.
func TestHostBytes(t *testing.T) {
	for i := range 256 {
		c := single(i)
		for _, s := range []string{c, "a" + c, c + "a", "x" + c + "a", "x." + c, "*" + c, "*" + c + "a", "*." + c, "1.2.3" + c + "4", "1.2.3.4" + c, c + "1.2.3.4", "127.0.0.1" + c} {
			for _, other := range []string{"*", "*.a", "a", "x.a", "", "1.2.3.4", "127.0.0.1", "*." + c, "*.x" + c, s, "x" + s, "x." + s, strings.ToUpper(s)} {
				checkHost(t, other, s)
				checkHost(t, s, other)
			}
		}
	}
	for _, h := range []string{strings.Repeat("a.", 1<<14) + "a", strings.Repeat("1.", 1<<14) + "1", strings.Repeat(".", 1<<15), strings.Repeat("0", 1<<15)} {
		for _, pattern := range []string{"*", "*.a", "*.1", h, "*." + h, "*" + h, "*." + h[1:], "*." + h[2:], h + "b"} {
			checkHost(t, pattern, h)
		}
	}
}

// P15.2: addresses of which one only may be named.
func TestHostAddresses(t *testing.T) {
	for _, a := range []int{0, 1, 9, 10, 99, 100, 126, 127, 128, 199, 200, 255} {
		for _, b := range []int{0, 1, 2, 10, 255} {
			for _, c := range []int{0, 1, 127} {
				s := strconv.Itoa(a) + "." + strconv.Itoa(c) + "." + strconv.Itoa(c) + "." + strconv.Itoa(b)
				if got := Host(s, s); got != (s == "127.0.0.1") {
					t.Errorf("Host(%q, %q) = %v", s, s, got)
				}
				if !Host("*", s) || Host("*"+s[strings.IndexByte(s, '.'):], s) || Host("*.", s) {
					t.Errorf("%q is not as it should be with stars", s)
				}
				checkHost(t, s, s)
				checkHost(t, "127.0.0.1", s)
				checkHost(t, s, "127.0.0.1")
			}
		}
	}
}

// P15.3: ports of URLs that are parsed.
func TestPort(t *testing.T) {
	checkPatterns(t, []patternRow{
		{"", []string{"http://a", "http://a:80", "https://a", "https://a:443", "ws://a", "ws://a:80", "wss://a", "ftp://a", "ftp://a:21"}, []string{"http://a:81", "http://a:443", "https://a:80", "ws://a:443", "wss://a:80", "ftp://a:80", "http://a:0", "https://a:444", "ftp://a:22", "http://a:21"}},
		{"*", []string{"http://a", "http://a:81", "https://a:0", "ftp://a:65535", "wss://a"}, nil},
		{"80", []string{"http://a", "https://a", "ws://a", "wss://a", "http://a:443", "ws://a:443", "https://a:80", "ftp://a:80", "ftp://a:443"}, []string{"http://a:81", "https://a:444", "ftp://a", "http://a:8080", "http://a:8", "http://a:0"}},
		{"443", []string{"https://a", "wss://a", "http://a:443", "ftp://a:443"}, []string{"http://a", "ws://a", "https://a:80", "ftp://a", "https://a:444"}},
		{"21", []string{"ftp://a", "http://a:21"}, []string{"http://a", "https://a", "ftp://a:80", "ftp://a:2", "ftp://a:443"}},
		{"081", []string{"http://a:81"}, []string{"http://a", "http://a:443", "http://a:810"}},
		{"080", []string{"http://a", "https://a", "http://a:443"}, []string{"http://a:81"}},
		{"0000000000000000000000000000000000000080", []string{"http://a", "https://a"}, []string{"http://a:81", "ftp://a"}},
		{"00443", []string{"https://a", "http://a:443"}, []string{"http://a"}},
		{"0", []string{"http://a:0", "ftp://a:0"}, []string{"http://a", "https://a", "ftp://a"}},
		{"00000000000000000000", []string{"http://a:0"}, []string{"http://a", "https://a:1"}},
		{"65535", []string{"http://a:65535"}, []string{"http://a", "http://a:65534"}},
		{"65616", nil, []string{"http://a", "https://a:443"}},                  // 2^16 + 80
		{"4294967376", nil, []string{"http://a", "https://a"}},                 // 2^32 + 80
		{"18446744073709551696", nil, []string{"http://a"}},                    // 2^64 + 80
		{"18446744073709552059", nil, []string{"https://a"}},                   // 2^64 + 443
		{"340282366920938463463374607431768211536", nil, []string{"http://a"}}, // 2^128 + 80
		{"8", []string{"http://a:8"}, []string{"http://a", "http://a:88"}},
		{"800", []string{"http://a:800"}, []string{"http://a"}},
		{"a", nil, []string{"http://a", "https://a", "http://a:0", "http://a:10"}},
		{"80a", nil, []string{"http://a", "https://a", "http://a:80"}},
		{"a80", nil, []string{"http://a"}},
		{"0x50", nil, []string{"http://a", "http://a:0"}},
		{"+80", nil, []string{"http://a"}},
		{"-80", nil, []string{"http://a"}},
		{"-0", nil, []string{"http://a:0"}},
		{" 80", nil, []string{"http://a"}},
		{"80 ", nil, []string{"http://a"}},
		{" ", nil, []string{"http://a"}},
		{":80", nil, []string{"http://a"}},
		{"8_0", nil, []string{"http://a"}},
		{"8e1", nil, []string{"http://a"}},
		{"80.0", nil, []string{"http://a"}},
		{"80,443", nil, []string{"http://a", "https://a"}},
		{"**", nil, []string{"http://a", "https://a"}},
		{"*0", nil, []string{"http://a:0"}},
		{"0*", nil, []string{"http://a:0"}},
		{"\x00", nil, []string{"http://a", "http://a:0"}},
		{"٨٠", nil, []string{"http://a"}},
		{"http", nil, []string{"http://a"}},
	}, func(pattern, s string) bool { return Port(pattern, at(s)) }, func(pattern, s string) { checkPort(t, pattern, at(s)) })
}

// P15.3: 80 stands for 443 too, whatever the scheme; not the other way round.
func TestPortSecure(t *testing.T) {
	for _, scheme := range []string{"http", "https", "ws", "wss", "ftp", "x", ""} {
		for _, c := range []struct {
			pattern string
			port    int
			want    bool
		}{{"80", 443, true}, {"443", 80, false}, {"080", 443, true}, {"0443", 80, false}, {"80", 444, false}, {"81", 443, false}, {"80", 80, true}, {"443", 443, true}, {"80", 8443, false}, {"8080", 443, false}, {"800", 443, false}} {
			u := api.URL{Scheme: scheme, Host: "a", Port: c.port}
			if got := Port(c.pattern, u); got != c.want {
				t.Errorf("Port(%q, %+v) = %v", c.pattern, u, got)
			}
			checkPort(t, c.pattern, u)
		}
	}
}

// P15.3: all ports that a URL has, and values next to them.
func TestPortAll(t *testing.T) {
	for port := range 65536 {
		s := strconv.Itoa(port)
		u := api.URL{Scheme: "http", Host: "a", Port: port}
		if !Port(s, u) || !Port("0"+s, u) || !Port("*", u) || Port("", u) != (port == 80) {
			t.Errorf("the port %d isn't matched as it should be", port)
		}
		if Port("80", u) != (port == 80 || port == 443) || Port(strconv.Itoa(port+1), u) || Port("1"+s, u) || Port(s+"0", u) && port != 0 {
			t.Errorf("the port %d is matched by another", port)
		}
	}
}

// P15.3: URLs that no text is parsed as, and values that match no port.
func TestPortBeyond(t *testing.T) {
	zeros := strings.Repeat("0", 1<<14)
	for _, c := range []struct {
		pattern string
		port    int
		want    bool
	}{
		{"65536", 65536, true}, {"9999999", 9999999, true}, {"10000000", 10000000, true}, {"10000008", 10000008, true}, {"10000009", 10000009, true}, {"10000010", 10000010, false}, {"10000011", 10000011, false},
		{"10000019", 10000019, false}, {"10000100", 10000100, false}, {"20000000", 20000000, false}, {"99999999", 99999999, false}, {"100000000", 100000000, false}, {"100000090", 100000090, false},
		{"000010000009", 10000009, true}, {"000010000010", 10000010, false}, {zeros + "10000009", 10000009, true}, {zeros + "10000010", 10000010, false}, {zeros, 0, true}, {zeros + "80", 443, true},
		{zeros + "81", 443, false}, {"1" + zeros, 0, false}, {"1" + zeros, 1, false}, {strings.Repeat("9", 1<<14), 99999, false}, {zeros + "a", 0, false}, {zeros + "-1", -1, false},
		{"9223372036854775807", math.MaxInt, false}, {"9223372036854775808", math.MinInt, false}, {"18446744073709551615", -1, false}, {"18446744073709551614", -2, false}, {"-2", -2, false}, {"-9223372036854775808", math.MinInt, false},
		{"2147483647", math.MaxInt32, false}, {"4294967295", math.MaxUint32, false}, {"", -2, false}, {"", math.MinInt, false}, {"*", -2, true}, {"*", math.MinInt, true}, {"*", math.MaxInt, true}, {"", 0, false}, {"0", 0, true},
	} {
		for _, scheme := range []string{"http", "ftp", "x", ""} {
			u := api.URL{Scheme: scheme, Port: c.port}
			if got, want := Port(c.pattern, u), c.want; c.port != -1 && got != want {
				t.Errorf("Port(%.100q, %+v) = %v", c.pattern, u, got)
			}
			checkPort(t, c.pattern, u)
		}
	}
	for n := 9_999_900; n < 10_000_200; n++ {
		if got := Port(strconv.Itoa(n), api.URL{Port: n}); got != (n < 10_000_010) {
			t.Errorf("%d matches itself: %v", n, got)
		}
	}
}

// P15.3: more digits than any number has.
func TestPortLong(t *testing.T) {
	zeros, u := strings.Repeat("0", 1<<22), at("https://a")
	for pattern, want := range map[string]bool{zeros: false, zeros + "80": true, zeros + "443": true, zeros + "81": false, zeros + "4430": false, "1" + zeros: false, zeros + "a": false, "8" + zeros[1:]: false} {
		if got := Port(pattern, u); got != want {
			t.Errorf("Port(..%q, %+v) = %v", pattern[len(pattern)-4:], u, got)
		}
	}
}

// P15.3: schemes without a default port.
func TestPortNone(t *testing.T) {
	for _, scheme := range []string{"", "x", "HTTP", "http:", "httpss", "data", "*", "FTP", "h"} {
		for _, port := range []int{-1, 0, 1, 21, 80, 443} {
			u := api.URL{Scheme: scheme, Host: "a", Port: port}
			for _, pattern := range []string{"", "0", "00", "*", "1", "21", "80", "443", "-1"} {
				checkPort(t, pattern, u)
			}
			if Port("", u) || !Port("*", u) || Port("0", u) != (port <= 0) || Port("80", u) != (port >= 80) || Port("-1", u) {
				t.Errorf("the port of %+v isn't matched as it should be", u)
			}
		}
	}
}

// P15.3: each of all bytes in a port, and all short patterns.
func TestPortBytes(t *testing.T) {
	var l []api.URL
	for _, s := range []string{"http://a", "https://a", "http://a:0", "http://a:8", "http://a:800", "http://a:443", "ftp://a", "ftp://a:1"} {
		l = append(l, at(s))
	}
	for i := range 256 {
		c := single(i)
		for _, u := range l {
			for _, s := range []string{c, c + "80", "8" + c, "8" + c + "0", "80" + c, "0" + c, c + c, c + "0"} {
				checkPort(t, s, u)
			}
		}
	}
	for _, s := range texts([]string{"0", "8", "4", "3", "*", "1", "2", "a", "-"}, 4) {
		for _, u := range l {
			checkPort(t, s, u)
		}
	}
}

// P15.3: paths that match, and those that don't.
func TestPath(t *testing.T) {
	checkPatterns(t, []patternRow{
		{"", []string{"", "/", "/a", "/a/b/", "a", "//", "\x00", "%"}, nil},
		{"/", []string{"", "/", "/a", "/a/b", "//", "/a/"}, []string{"a", "a/", "a/b", "%2f", "%"}},
		{"/a", []string{"/a", "/%61"}, []string{"", "/", "/a/", "/a/b", "/b", "/A", "a", "/aa", "//a", "/a%", "/%41", "/%2561"}},
		{"/a/", []string{"/a/", "/a/b", "/a/b/c", "/a//", "/%61/x"}, []string{"", "/", "/a", "/b/a", "/ab", "/A/", "a/", "//a/", "/aa/"}},
		{"/a/b", []string{"/a/b", "/%61/%62"}, []string{"/a", "/a/", "/a/b/", "/a/b/c", "/a/c", "/c/b", "/b/a", "a/b", "/a%2fb", "/a/B", "/ab"}},
		{"/a/b/", []string{"/a/b/", "/a/b/c", "/a/b/c/d"}, []string{"/a/b", "/a/", "/a", "/a/c/", "/c/b/", "/a/bc", "/a/bc/"}},
		{"//", []string{"//", "//a", "//a/b", "///"}, []string{"", "/", "/a", "/a/", "/a/b"}},
		{"//a", []string{"//a"}, []string{"/a", "/a/", "///a", "a"}},
		{"/a//b", []string{"/a//b"}, []string{"/a/b", "/a/x/b", "/a///b"}},
		{"///", []string{"///", "///a"}, []string{"//", "/", "/a//", "//a/"}},
		{"/%61", []string{"/a", "/%61"}, []string{"/%2561", "/A", "/61"}},
		{"/%2f", []string{"/%2F", "/%2f"}, []string{"/", "//", "/%252f", ""}},
		{"/a%2Fb", []string{"/a%2fb", "/a%2Fb", "/%61%2f%62"}, []string{"/a/b", "/a%2fb/", "/a%2f/b"}},
		{"/a%2F", []string{"/a%2f"}, []string{"/a/", "/a%2f/b", "/a%2fb"}},
		{"/%", []string{"/%", "/%25"}, []string{"/", "/%%"}},
		{"/%25", []string{"/%", "/%25"}, []string{"/%2525"}},
		{"/%zz", []string{"/%zz", "/%25zz"}, []string{"/zz", "/%ZZ"}},
		{"/%C3%A9", []string{"/%c3%a9", "/é"}, []string{"/e", "/%C3", "/\xe9"}},
		{"/%ff/", []string{"/\xff/", "/%FF/x"}, []string{"/\xfe/", "/%ff"}},
		{"/.", []string{"/.", "/%2e"}, []string{"/", "/a"}},
		{"/*", []string{"/*", "/%2a"}, []string{"/a", "/"}},
		{"/'self'", []string{"/'self'", "/%27self%27"}, nil},
		{"a", []string{"a", "%61"}, []string{"", "/a", "a/", "b"}},
		{"a/", []string{"a/", "a/b"}, []string{"a", "/a/", "", "/"}},
		{"a/b", []string{"a/b"}, []string{"a", "a/b/", "a/c"}},
		{"%2f", []string{"%2F"}, []string{"/", "", "/a"}},
		{"/\x00", []string{"/\x00", "/%00"}, []string{"/", "/a"}},
		{`\`, []string{`\`, "%5c"}, []string{"/", ""}},
	}, Path, func(a, b string) { checkPath(t, a, b) })
}

// P15.3: all short patterns against all short paths.
func TestPathShort(t *testing.T) {
	n := 5
	if testing.Short() {
		n = 4
	}
	l := texts([]string{"/", "a", "%61"}, n)
	pairs(l, l, func(a, b string) { checkPath(t, a, b) })
	l = texts([]string{"/", "//", "a", "/a", "%2f", "%"}, 3)
	pairs(l, l, func(a, b string) { checkPath(t, a, b) })
	l = texts([]string{"/a", "/%61", "/A", "/"}, 4)
	pairs(l, l, func(a, b string) { checkPath(t, a, b) })
}

// P15.3: each of all bytes in a pattern and in a path.
func TestPathBytes(t *testing.T) {
	for i := range 256 {
		c := single(i)
		high, low := "%"+strings.ToUpper(strconv.FormatInt(int64(i|256), 16)[1:]), "%"+strconv.FormatInt(int64(i|256), 16)[1:]
		if !Path("/"+high, "/"+low) || i != '/' && !Path("/"+c, "/"+low) || i != '/' && !Path("/"+high+"/", "/"+c+"/x") {
			t.Errorf("the byte %d is not the same as %s", i, high)
		}
		for _, s := range []string{c, "/" + c, "/a" + c, "/" + c + "/", "/%" + c, "/%4" + c, "/%" + c + "1", "/a" + c + "b", c + "/a", "/a/" + c} {
			for _, other := range []string{s, "", "/", "/a", "/a/", "/a/b", "/A", "/%41", "/" + high, "/a" + low, "/" + low + "/", s + "/", s + "/x", s + "x"} {
				checkPath(t, s, other)
				checkPath(t, other, s)
			}
		}
	}
}

// P15.3: patterns of many parts, against paths of as many, of one fewer and of
// one more.
func TestPathMany(t *testing.T) {
	for _, n := range []int{1, 2, 3, 7, 100, 1 << 14} {
		s := strings.Repeat("/a", n)
		for _, c := range []struct {
			pattern, path string
			want          bool
		}{
			{s, s, true}, {s, s[2:], false}, {s, s + "/a", false}, {s, s + "/", false}, {s, s[:len(s)-1] + "b", false}, {s, "/b" + s[2:], false}, {s, strings.Repeat("/%61", n), true},
			{s + "/", s, false}, {s + "/", s + "/", true}, {s + "/", s + "/b", true}, {s + "/", s + "/b/", true}, {s + "/", s + s + s, true}, {s + "/", s[2:] + "/", false}, {s + "/", "/b" + s[2:] + "/", false},
			{s + "/", s[:len(s)-1] + "b/", false}, {s + "/", s[:len(s)-1] + "b/c", false}, {"/", s, true}, {"", s, true}, {s, "/", false}, {s, "", false}, {s + "/", "/", false}, {s + "/", "", false},
		} {
			if got := Path(c.pattern, c.path); got != c.want {
				t.Errorf("Path(%.40q, %.40q) = %v, with %d parts", c.pattern, c.path, got, n)
			}
			checkPath(t, c.pattern, c.path)
		}
	}
}

// P15.3: patterns and paths by chance.
func TestPathByChance(t *testing.T) {
	r := rand.New(rand.NewSource(153))
	pieces := []string{"/", "/", "/", "a", "%61", "A", "%41", "%2f", "%2F", "%", "6", "1", "é", "%C3%a9"}
	text := func() string {
		s := ""
		for range r.Intn(9) {
			s += pieces[r.Intn(len(pieces))]
		}
		return s
	}
	for range 50000 {
		a := text()
		checkPath(t, a, text())
		checkPath(t, a, a)
		checkPath(t, a, a+text())
		checkPath(t, a, decoded(a))
		checkPath(t, decoded(a), a+text())
	}
}
