package host

import (
	"fmt"
	"math/big"
	"math/rand"
	"regexp"
	"strings"
	"testing"

	"parapet/api"
)

// banned is the forbidden bytes in the chapter's words.
func banned(c byte) bool {
	switch c {
	case '#', '%', '/', ':', '<', '>', '?', '@', '[', '\\', ']', '^', '|':
		return true
	}
	return c <= 32 || c >= 127
}

// single is the text of one byte.
func single(c byte) string { return string([]byte{c}) }

// escape is a byte's escape, its digits in either case.
func escape(c byte, upper bool) string {
	if upper {
		return fmt.Sprintf("%%%02X", c)
	}
	return fmt.Sprintf("%%%02x", c)
}

// small is s with small letters, for the bytes of ASCII alone.
func small(s string) string {
	b := []byte(s)
	for i, c := range b {
		if c >= 65 && c <= 90 {
			b[i] = c + 32
		}
	}
	return string(b)
}

var (
	escapes  = regexp.MustCompile(`%[0-9A-Fa-f]{2}`)
	numbered = regexp.MustCompile(`^([0-9]+|0x[0-9a-f]*)$`)
	inHex    = regexp.MustCompile(`^0[xX]([0-9A-Fa-f]*)$`)
	inOctal  = regexp.MustCompile(`^0([0-7]+)$`)
	inTens   = regexp.MustCompile(`^(0|[1-9][0-9]*)$`)
	written  = regexp.MustCompile(`^(0|[1-9][0-9]{0,2})\.(0|[1-9][0-9]{0,2})\.(0|[1-9][0-9]{0,2})\.(0|[1-9][0-9]{0,2})$`)
)

// isDecoded is what percent.Decode makes of s.
func isDecoded(s string) string {
	return escapes.ReplaceAllStringFunc(s, func(e string) string {
		var c byte
		fmt.Sscanf(e, "%%%x", &c)
		return single(c)
	})
}

// isParts is the parts in the chapter's words.
func isParts(s string) []string {
	l := strings.Split(s, ".")
	if len(l) > 1 && l[len(l)-1] == "" {
		l = l[:len(l)-1]
	}
	return l
}

// power is 256 to the power of n.
func power(n int) *big.Int {
	return new(big.Int).Exp(big.NewInt(256), big.NewInt(int64(n)), nil)
}

// isPart is the number that a part is, of any size.
func isPart(part string) (*big.Int, bool) {
	for _, form := range []struct {
		r    *regexp.Regexp
		base int
	}{{inHex, 16}, {inOctal, 8}, {inTens, 10}} {
		if m := form.r.FindStringSubmatch(part); m != nil {
			n, _ := new(big.Int).SetString("0"+m[1], form.base)
			return n, true
		}
	}
	return nil, false
}

// isNumber is P10.2 in the chapter's words.
func isNumber(s string) (uint32, bool) {
	l := isParts(s)
	if len(l) > 4 {
		return 0, false
	}
	sum := new(big.Int)
	for i, part := range l {
		n, ok := isPart(part)
		if !ok || n.Cmp(power(4)) >= 0 {
			return 0, false
		}
		if i < len(l)-1 {
			if n.Cmp(power(1)) >= 0 {
				return 0, false
			}
			n.Mul(n, power(3-i))
		} else if n.Cmp(power(5-len(l))) >= 0 {
			return 0, false
		}
		sum.Add(sum, n)
	}
	return uint32(sum.Uint64()), true
}

// isText is Text in the chapter's words.
func isText(a uint32) string {
	n := int64(a)
	return fmt.Sprintf("%d.%d.%d.%d", n/(256*256*256), n/(256*256)%256, n/256%256, n%256)
}

// isParse is P10.1 in the chapter's words.
func isParse(s string) (string, api.Errno) {
	d := small(isDecoded(s))
	if d == "" {
		return "", api.ErrText
	}
	for _, c := range []byte(d) {
		if banned(c) {
			return "", api.ErrText
		}
	}
	l := isParts(d)
	if !numbered.MatchString(l[len(l)-1]) {
		return d, api.OK
	}
	a, ok := isNumber(d)
	if !ok {
		return "", api.ErrText
	}
	return isText(a), api.OK
}

// isAddress is Address in the chapter's words: a Text is four bytes in decimal.
func isAddress(h string) (uint32, bool) {
	m := written.FindStringSubmatch(h)
	if m == nil {
		return 0, false
	}
	sum := 0
	for _, digits := range m[1:] {
		var n int
		fmt.Sscan(digits, &n)
		if n > 255 {
			return 0, false
		}
		sum = 256*sum + n
	}
	return uint32(sum), true
}

// isDomain is Domain in the chapter's words.
func isDomain(h string) bool {
	p, e := isParse(h)
	_, ok := isAddress(h)
	return h != "" && e == api.OK && p == h && !ok
}

func checkParse(t *testing.T, s, want string, wantE api.Errno) {
	t.Helper()
	if got, e := Parse(s); got != want || e != wantE {
		t.Errorf("Parse(%q) = %q, %d, not %q, %d", s, got, e, want, wantE)
	}
}

func checkNumber(t *testing.T, s string, want uint32, wantOK bool) {
	t.Helper()
	if got, ok := Number(s); got != want || ok != wantOK {
		t.Errorf("Number(%q) = %d, %v, not %d, %v", s, got, ok, want, wantOK)
	}
}

func checkAddress(t *testing.T, h string, want uint32, wantOK bool) {
	t.Helper()
	if got, ok := Address(h); got != want || ok != wantOK {
		t.Errorf("Address(%q) = %d, %v, not %d, %v", h, got, ok, want, wantOK)
	}
}

func checkDomain(t *testing.T, h string, want bool) {
	t.Helper()
	if got := Domain(h); got != want {
		t.Errorf("Domain(%q) = %v", h, got)
	}
}

// checkAll holds all calls against the chapter's words, and against each other.
func checkAll(t *testing.T, s string) {
	t.Helper()
	p, e := isParse(s)
	checkParse(t, s, p, e)
	n, ok := isNumber(s)
	checkNumber(t, s, n, ok)
	a, ok := isAddress(s)
	checkAddress(t, s, a, ok)
	checkDomain(t, s, isDomain(s))
	checkFollows(t, s)
	checkAgree(t, s)
}

// checkFollows is P10.4 for a string: what Parse returned, it leaves unchanged.
func checkFollows(t *testing.T, s string) {
	t.Helper()
	if once, e := Parse(s); e == api.OK {
		checkParse(t, once, once, api.OK)
	} else if once != "" || e != api.ErrText {
		t.Errorf("Parse(%q) = %q, %d", s, once, e)
	}
}

// checkAgree is P10.3 by the other calls.
func checkAgree(t *testing.T, h string) {
	t.Helper()
	a, ok := Address(h)
	n, isOne := Number(h)
	if ok != (isOne && Text(n) == h) {
		t.Errorf("Address(%q) = %d, %v, Number %d, %v", h, a, ok, n, isOne)
	}
	if ok && (a != n || Text(a) != h) {
		t.Errorf("Address(%q) = %d, whose Text is %q", h, a, Text(a))
	}
	p, e := Parse(h)
	if ok && (p != h || e != api.OK) {
		t.Errorf("Address(%q) is %d, and Parse %q, %d", h, a, p, e)
	}
	if want := h != "" && e == api.OK && p == h && !ok; Domain(h) != want {
		t.Errorf("Domain(%q) = %v", h, !want)
	}
	if e == api.OK {
		if _, ok := Address(p); ok == Domain(p) {
			t.Errorf("Parse(%q), %q, is a domain, and an address: both %v", h, p, ok)
		}
	}
}

// texts calls f with every text of up to n bytes of the alphabet.
func texts(alphabet string, n int, f func(string)) {
	var grow func(string)
	grow = func(s string) {
		f(s)
		if len(s) == n {
			return
		}
		for i := range len(alphabet) {
			grow(s + alphabet[i:i+1])
		}
	}
	grow("")
}

// anyHost is a string by chance: parts that are numbers, nearly, or names.
func anyHost(r *rand.Rand) string {
	s := ""
	for i := range 1 + r.Intn(5) {
		if i > 0 {
			s += "."
		}
		s += anyPart(r)
	}
	if r.Intn(6) == 0 {
		s += "."
	}
	b := []byte(s)
	if len(b) > 0 && r.Intn(6) == 0 {
		b[r.Intn(len(b))] = byte(r.Intn(256))
	}
	if len(b) > 0 && r.Intn(4) == 0 {
		i := r.Intn(len(b))
		return string(b[:i]) + escape(b[i], r.Intn(2) == 0) + string(b[i+1:])
	}
	return string(b)
}

// anyPart is one part by chance, with a size of any number of bits.
func anyPart(r *rand.Rand) string {
	n := r.Uint64() >> r.Intn(64)
	if r.Intn(3) == 0 {
		n &= 255
	}
	switch r.Intn(12) {
	case 0:
		return ""
	case 1:
		return []string{"a", "Ab", "xN--", "a-_~", "0x", "0X", "0", "00", "09", "1a", "0xg"}[r.Intn(11)]
	case 2, 3:
		return fmt.Sprintf("0x%x", n)
	case 4:
		return fmt.Sprintf("0X%X", n)
	case 5, 6:
		return fmt.Sprintf("0%o", n)
	case 7:
		return strings.Repeat("0", r.Intn(30)) + fmt.Sprintf("%o", n)
	}
	return fmt.Sprint(n)
}

// P10.1: Parse.
func TestParse(t *testing.T) {
	for _, c := range []struct{ s, want string }{
		{"EXAMPLE.com", "example.com"},
		{"example.com", "example.com"},
		{"eXaMpLe.CoM.", "example.com."},
		{"0x7f.1", "127.0.0.1"},
		{"1.2.3", "1.2.0.3"},
		{"a..b", "a..b"},
		{"a", "a"},
		{"Z", "z"},
		{".", "."},
		{"..", ".."},
		{"...", "..."},
		{".a", ".a"},
		{"a.", "a."},
		{"a..", "a.."},
		{"1..", "1.."},
		{"1.2.3.4..", "1.2.3.4.."},
		{"..1..", "..1.."},
		{"%41%2e%62", "a.b"},
		{"%41%2E%42", "a.b"},
		{"%30x7f.1", "127.0.0.1"},
		{"0%787f%2e1", "127.0.0.1"},
		{"0%587F%2E%31", "127.0.0.1"},
		{"%31%32", "0.0.0.12"},
		{"1.2.3.4", "1.2.3.4"},
		{"1.2.3.4.", "1.2.3.4"},
		{"01.02.03.04", "1.2.3.4"},
		{"0x", "0.0.0.0"},
		{"0X", "0.0.0.0"},
		{"0x.", "0.0.0.0"},
		{"0x.0x.0x.0x", "0.0.0.0"},
		{"0", "0.0.0.0"},
		{"00", "0.0.0.0"},
		{"0xFF", "0.0.0.255"},
		{"0Xff", "0.0.0.255"},
		{"010", "0.0.0.8"},
		{"4294967295", "255.255.255.255"},
		{"1.0xffffff", "1.255.255.255"},
		{"1a", "1a"},
		{"a1", "a1"},
		{"1.a", "1.a"},
		{"256.a", "256.a"},
		{"0x1g", "0x1g"},
		{"0X1G", "0x1g"},
		{"a.0x1g", "a.0x1g"},
		{"x", "x"},
		{"0xx", "0xx"},
		{"0x0x", "0x0x"},
		{"00x1", "00x1"},
		{"x0", "x0"},
		{"+1", "+1"},
		{"-1", "-1"},
		{"1_0", "1_0"},
		{"0b1", "0b1"},
		{"0o7", "0o7"},
		{"1e3", "1e3"},
		{"ff", "ff"},
		{"!\"$&'()*+,-.0;=_`a{}~", "!\"$&'()*+,-.0;=_`a{}~"},
	} {
		checkParse(t, c.s, c.want, api.OK)
	}
}

// P10.1: what Parse refuses.
func TestParseRefuses(t *testing.T) {
	for _, s := range []string{
		"", "256.0.0.1", "1.2.3.4.5", "1.2.3.4.5.", "a.09", "a.09.", "09", "08", "a.1", "a.1.", "a.0", "a.0x", "a.0X", "a.0x.",
		"a.b.0xff", "A.%31", "1.a.2", "0x1g.1", "1..2", "..1", ".1", ".1.", ".0x", "1...2", "4294967296", "1.16777216", "1.2.65536", "1.2.3.256",
		"1.256.3.4", "08.1", "1.08", "99999999999999999999", "18446744073709551617", "0x10000000000000001", "0x100000000",
		" ", " a", "a ", "a b", "a\tb", "a\nb", "a%", "%", "%%", "x%zz", "%4", "a%2", "a%20b", "%00", "a%25", "%2541", "%252e", "a:b", "a:", ":1",
		"[::1]", "[1.2.3.4]", "a@b", "a^b", "a|b", "a#b", "a/b", "a\\b", "a?b", "<a>", "\x7f", "%7f", "é", "%c3%a9", "a\xff", "1.2.3.4\x00", "1.2.3.4 ",
		" 1", "1 ", "1%20", "0x%", "%30%",
	} {
		checkParse(t, s, "", api.ErrText)
	}
}

// P10.1: each byte by itself and within a name, as it is and as an escape.
func TestParseBytes(t *testing.T) {
	for i := range 256 {
		c := byte(i)
		low := small(single(c))
		alone := low
		if '0' <= c && c <= '9' {
			alone = "0.0.0." + low
		}
		for _, s := range []string{single(c), escape(c, false), escape(c, true)} {
			for _, want := range []struct{ s, want string }{
				{s, alone},
				{"a" + s + "b", "a" + low + "b"},
				{s + "b", low + "b"},
				{"a" + s, "a" + low},
				{"B" + s + "C." + s + "d" + s, "b" + low + "c." + low + "d" + low},
			} {
				if banned(c) {
					checkParse(t, want.s, "", api.ErrText)
				} else {
					checkParse(t, want.s, want.want, api.OK)
				}
				checkAll(t, want.s)
			}
		}
		checkParse(t, "a%25"+escape(c, true)[1:], "", api.ErrText)
	}
}

// P10.1: a last part that looks like a number, or nearly, behind others.
func TestParseLastPart(t *testing.T) {
	for _, last := range []string{"0", "1", "9", "09", "007", "255", "256", "4294967296", "0x", "0X", "0x0", "0xf", "0xF", "0Xabcdef", "0x00000000000000000001"} {
		for _, ahead := range []string{"a.", "a.b.", ".", "..", "a..", "1.a.", "x.1.", "0xg.", "08.", "1a.", "256.", "1.2.3.4.", "-.", "4294967296."} {
			for _, behind := range []string{"", "."} {
				checkParse(t, ahead+last+behind, "", api.ErrText)
			}
			checkParse(t, ahead+last+"..", small(ahead+last)+"..", api.OK)
			checkParse(t, ahead+last+".a", small(ahead+last)+".a", api.OK)
		}
	}
	for _, last := range []string{"a", "1a", "a1", "0xg", "0x1g", "x1", "0y1", "1x", "00x0", "-1", "1-", "f", "0f", "0_1"} {
		for _, ahead := range []string{"", "1.", "1.2.3.", "1.2.3.4.", "256.", "0x.", "a.", ".", ".."} {
			for _, behind := range []string{"", ".", ".."} {
				checkParse(t, ahead+last+behind, ahead+last+behind, api.OK)
			}
		}
	}
}

// P10.3: Text.
func TestText(t *testing.T) {
	for _, c := range []struct {
		a    uint32
		want string
	}{
		{0, "0.0.0.0"},
		{1, "0.0.0.1"},
		{9, "0.0.0.9"},
		{10, "0.0.0.10"},
		{99, "0.0.0.99"},
		{100, "0.0.0.100"},
		{255, "0.0.0.255"},
		{256, "0.0.1.0"},
		{65535, "0.0.255.255"},
		{65536, "0.1.0.0"},
		{16777215, "0.255.255.255"},
		{16777216, "1.0.0.0"},
		{16909060, "1.2.3.4"},
		{1<<31 - 1, "127.255.255.255"},
		{1 << 31, "128.0.0.0"},
		{1<<32 - 2, "255.255.255.254"},
		{1<<32 - 1, "255.255.255.255"},
	} {
		if got := Text(c.a); got != c.want {
			t.Errorf("Text(%d) = %q, not %q", c.a, got, c.want)
		}
	}
}

// addresses calls f with each byte at each place, and with many by chance.
func addresses(f func(uint32)) {
	for i := range uint32(256) {
		for place := range 4 {
			f(i << (8 * place))
			f(^(i << (8 * place)))
		}
		f(i * 0x01010101)
	}
	r := rand.New(rand.NewSource(10))
	for range 50000 {
		f(r.Uint32() >> r.Intn(32))
	}
}

// P10.3, P10.4: Text of many addresses, and what the others say of it.
func TestTextOfMany(t *testing.T) {
	addresses(func(a uint32) {
		s := Text(a)
		if want := isText(a); s != want {
			t.Errorf("Text(%d) = %q, not %q", a, s, want)
		}
		checkNumber(t, s, a, true)
		checkAddress(t, s, a, true)
		checkParse(t, s, s, api.OK)
		checkDomain(t, s, false)
	})
}

// P10.3: Address.
func TestAddress(t *testing.T) {
	for _, c := range []struct {
		h    string
		want uint32
	}{
		{"1.2.3.4", 16909060},
		{"0.0.0.0", 0},
		{"0.0.0.1", 1},
		{"0.0.0.255", 255},
		{"0.0.1.0", 256},
		{"1.0.0.0", 16777216},
		{"127.0.0.1", 2130706433},
		{"255.255.255.255", 4294967295},
	} {
		checkAddress(t, c.h, c.want, true)
	}
	for _, h := range []string{
		"", "a", "01.2.3.4", "1.2.3.04", "1.2.3.00", "00.0.0.0", "1.2.3.4.", "1.2.3.4..", ".1.2.3.4", "1.2.3", "1.2", "1", "0", "16909060", "1.2.3.4.5",
		"1.2.3.", "1.2..4", "1..3.4", "...", "0x1.2.3.4", "1.2.3.0x4", "0x1020304", "1.2.3.256", "256.2.3.4", "1.2.3.4294967300", "1.2.3.a", "a.b.c.d",
		"1.2.3.-4", "+1.2.3.4", " 1.2.3.4", "1.2.3.4 ", "1.2.3.4\x00", "1,2,3,4", "1.2.3%2e4", "%31.2.3.4", "1.2.3.4:80", "[1.2.3.4]", "1.2.3.1e1", "0X1.2.3.4",
	} {
		checkAddress(t, h, 0, false)
	}
}

// P10.3: Domain.
func TestDomain(t *testing.T) {
	for _, h := range []string{"a", "a.b", "a.b.", "a..b", ".", "..", ".a", "1.2.3.4..", "1a", "0x1g", "a-b_c", "1.a", "-1", "~", "1.2.3.4.5a", "xn--a", "08.a"} {
		checkDomain(t, h, true)
	}
	for _, h := range []string{
		"", "A", "a.B", "1.2.3.4", "0.0.0.0", "255.255.255.255", "1.2.3", "1.2.3.4.", "1", "0", "0x", "01.2.3.4", "256.0.0.1", "a.1", "a.09", "09", "1.2.3.4.5",
		"a b", " a", "a%62", "%61", "a%", "%", "a:b", "a/b", "é", "\x7f", "a\x00", "[::1]", "0xA", "0XG",
	} {
		checkDomain(t, h, false)
	}
}

// P10.1 to P10.4: all short texts of some bytes.
func TestShort(t *testing.T) {
	check := func(s string) { checkAll(t, s) }
	texts(".01789afgxX", 4, check)
	texts(".0x1", 7, check)
	texts(".089", 7, check)
	texts(".%23e5A", 5, check)
	texts(". aA%\x7f\x80", 4, check)
}

// P10.1 to P10.4: strings by chance.
func TestByChance(t *testing.T) {
	r := rand.New(rand.NewSource(11))
	for range 40000 {
		checkAll(t, anyHost(r))
	}
}

// The same calls return the same twice, whatever was called in between.
func TestTwice(t *testing.T) {
	answers := func() []string {
		r := rand.New(rand.NewSource(12))
		var l []string
		for range 2000 {
			s := anyHost(r)
			p, e := Parse(s)
			n, isOne := Number(s)
			a, ok := Address(s)
			l = append(l, fmt.Sprint(p, e, n, isOne, a, ok, Domain(s), Text(n)))
		}
		return l
	}
	if first, again := fmt.Sprint(answers()), fmt.Sprint(answers()); first != again {
		t.Error("the same calls return other things")
	}
}

// P10.1, P10.2: long texts take no longer than their length asks.
func TestLong(t *testing.T) {
	const n = 1 << 18
	checkParse(t, strings.Repeat("A%2e", n), strings.Repeat("a.", n), api.OK)
	for _, s := range []string{
		strings.Repeat("1.", n), strings.Repeat("9", n), "0x" + strings.Repeat("F", n), "0" + strings.Repeat("7", n), strings.Repeat(".", n) + "1",
	} {
		checkParse(t, s, "", api.ErrText)
		checkNumber(t, s, 0, false)
		checkAddress(t, s, 0, false)
		checkDomain(t, s, false)
	}
	checkParse(t, "0x"+strings.Repeat("0", n)+"12", "0.0.0.18", api.OK)
	checkParse(t, strings.Repeat("0", n)+"12", "0.0.0.10", api.OK)
	checkDomain(t, strings.Repeat(".", n), true)
}
