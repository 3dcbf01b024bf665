package ascii

import (
	"math"
	"slices"
	"strings"
	"testing"
)

// texts calls f with every text of up to n bytes of the alphabet.
func texts(alphabet string, n int, f func(string)) {
	var grow func(string)
	grow = func(s string) {
		f(s)
		if len(s) == n {
			return
		}
		for i := range len(alphabet) {
			grow(s + alphabet[i:i+1])
		}
	}
	grow("")
}

// single is the text of one byte.
func single(c byte) string { return string([]byte{c}) }

// P1.1: Lower.
func TestLower(t *testing.T) {
	for _, c := range []struct{ s, want string }{
		{"", ""},
		{"AZaz[@", "azaz[@"},
		{"ABCDEFGHIJKLMNOPQRSTUVWXYZ", "abcdefghijklmnopqrstuvwxyz"},
		{"Text/HTML; Q=0.5", "text/html; q=0.5"},
		{"É K\xc1\xda\xff\x00", "É k\xc1\xda\xff\x00"},
		{"\u212a", "\u212a"}, // the sign of kelvin, of which Unicode makes a k
	} {
		if got := Lower(c.s); got != c.want {
			t.Errorf("Lower(%q) = %q, not %q", c.s, got, c.want)
		}
	}
}

// P1.1: Lower, byte by byte.
func TestLowerBytes(t *testing.T) {
	const upper = "ABCDEFGHIJKLMNOPQRSTUVWXYZ"
	const small = "abcdefghijklmnopqrstuvwxyz"
	for i := range 256 {
		want := single(byte(i))
		if at := strings.Index(upper, want); at >= 0 {
			want = small[at : at+1]
		}
		if got := Lower("x" + single(byte(i)) + "Y"); got != "x"+want+"y" {
			t.Errorf("Lower of byte %d = %q", i, got)
		}
	}
}

// P1.1: Same.
func TestSame(t *testing.T) {
	for _, c := range []struct {
		a, b string
		want bool
	}{
		{"", "", true},
		{"aB", "Ab", true},
		{"Content-Type", "content-tYPE", true},
		{"a", "b", false},
		{"a", "", false},
		{"", "A", false},
		{"ab", "a", false},
		{"a", "aB", false},
		{"@", "`", false},
		{"[", "{", false},
		{"\xc9", "\xe9", false},
		{"É", "é", false},
		{"k", "\u212a", false},
		{"s", "\u017f", false},
		{"\xff\x00", "\xff\x00", true},
	} {
		if got := Same(c.a, c.b); got != c.want {
			t.Errorf("Same(%q, %q) = %v", c.a, c.b, got)
		}
	}
}

// P1.1: Same is that Lower of both is equal.
func TestSameIsLower(t *testing.T) {
	for i := range 256 {
		for j := range 256 {
			a, b := single(byte(i)), single(byte(j))
			if Same(a, b) != (Lower(a) == Lower(b)) {
				t.Errorf("Same(%q, %q) = %v", a, b, Same(a, b))
			}
		}
	}
	texts("aA[", 3, func(a string) {
		texts("aA{", 3, func(b string) {
			if Same(a, b) != (Lower(a) == Lower(b)) {
				t.Errorf("Same(%q, %q) = %v", a, b, Same(a, b))
			}
		})
	})
}

// P1.1: Any.
func TestAny(t *testing.T) {
	for _, c := range []struct {
		s    string
		of   []string
		want bool
	}{
		{"a", []string{"b", "a"}, true},
		{"a", []string{"a", "b"}, true},
		{"b", []string{"a", "b", "c"}, true},
		{"a", []string{"A"}, false},
		{"a", []string{"b", "c"}, false},
		{"a", []string{"ab", "ba", ""}, false},
		{"ab", []string{"a", "b"}, false},
		{"", []string{""}, true},
		{"", []string{"a"}, false},
		{"", nil, false},
		{"a", []string{}, false},
		{"\xff", []string{"\xfe", "\xff"}, true},
		{"\xff", []string{"\ufffd"}, false},
	} {
		if got := Any(c.s, c.of...); got != c.want {
			t.Errorf("Any(%q, %q) = %v", c.s, c.of, got)
		}
	}
	if Any("a") || Any("") {
		t.Error("Any without a list is true")
	}
}

// P1.1: Any leaves what it is given as it is, the spare capacity too.
func TestAnyChangesNothing(t *testing.T) {
	list := []string{"b", "a", "spare", "more"}
	if Any("spare", list[:2]...) {
		t.Error("Any looks beyond the end")
	}
	if !slices.Equal(list, []string{"b", "a", "spare", "more"}) {
		t.Errorf("Any changed its list: %q", list)
	}
}

// P1.2: Token, byte by byte.
func TestTokenBytes(t *testing.T) {
	const good = "!#$%&'*+-.^_|~`" + "0123456789" +
		"ABCDEFGHIJKLMNOPQRSTUVWXYZ" + "abcdefghijklmnopqrstuvwxyz"
	for i := range 256 {
		c := single(byte(i))
		want := strings.Contains(good, c)
		for _, s := range []string{c, c + "a", "a" + c, "a" + c + "a"} {
			if got := Token(s); got != want {
				t.Errorf("Token(%q) = %v", s, got)
			}
		}
	}
}

// P1.2: Token.
func TestToken(t *testing.T) {
	for _, c := range []struct {
		s    string
		want bool
	}{
		{"", false},
		{"a1", true},
		{"1", true},
		{"X-Frame_Options", true},
		{"a b", false},
		{" a", false},
		{"a\t", false},
		{"é", false},
		{"text/html", false},
	} {
		if got := Token(c.s); got != c.want {
			t.Errorf("Token(%q) = %v", c.s, got)
		}
	}
}

// P1.2: Trim.
func TestTrim(t *testing.T) {
	for _, c := range []struct{ s, want string }{
		{"", ""},
		{" ", ""},
		{"\t", ""},
		{" \t \t", ""},
		{" \t a b\t", "a b"},
		{"a", "a"},
		{" a", "a"},
		{"a\t", "a"},
		{"a \t b", "a \t b"},
		{"\na\r", "\na\r"},
		{" \n ", "\n"},
		{"\v a\f", "\v a\f"},
		{"\x00 ", "\x00"},
		{"\u00a0a\u00a0", "\u00a0a\u00a0"},
		{" \xff\t", "\xff"},
	} {
		if got := Trim(c.s); got != c.want {
			t.Errorf("Trim(%q) = %q, not %q", c.s, got, c.want)
		}
	}
}

// P1.2: Trim takes bytes 32 and 9 from the ends, and no other.
func TestTrimBytes(t *testing.T) {
	for i := range 256 {
		c := single(byte(i))
		want := c + "a" + c
		if i == 32 || i == 9 {
			want = "a"
		}
		if got := Trim(c + "a" + c); got != want {
			t.Errorf("Trim with byte %d = %q", i, got)
		}
	}
}

// P1.2: Blanks.
func TestBlanks(t *testing.T) {
	for _, c := range []struct {
		s    string
		want []string
	}{
		{"", nil},
		{" ", nil},
		{"\t\n\f\r ", nil},
		{"\ta  b", []string{"a", "b"}},
		{"a", []string{"a"}},
		{" a ", []string{"a"}},
		{"a\tb\nc\fd\re f", []string{"a", "b", "c", "d", "e", "f"}},
		{"\ta  b\r\n\fc\v", []string{"a", "b", "c\v"}},
		{"ab cd", []string{"ab", "cd"}},
		{"a a a", []string{"a", "a", "a"}},
		{"\xff \xc3 \xa9", []string{"\xff", "\xc3", "\xa9"}},
		{"a\u00a0b\u0085c", []string{"a\u00a0b\u0085c"}},
	} {
		if got := Blanks(c.s); !slices.Equal(got, c.want) {
			t.Errorf("Blanks(%q) = %q, not %q", c.s, got, c.want)
		}
	}
}

// P1.2: Blanks cuts at bytes 9, 10, 12, 13 and 32, and at no other.
func TestBlanksBytes(t *testing.T) {
	for i := range 256 {
		s := "a" + single(byte(i)) + "b"
		want := []string{s}
		if slices.Contains([]int{9, 10, 12, 13, 32}, i) {
			want = []string{"a", "b"}
		}
		if got := Blanks(s); !slices.Equal(got, want) {
			t.Errorf("Blanks(%q) = %q", s, got)
		}
	}
}

// P1.2: Split.
func TestSplit(t *testing.T) {
	for _, c := range []struct {
		s    string
		sep  byte
		want []string
	}{
		{"", ',', []string{""}},
		{",", ',', []string{"", ""}},
		{",,", ',', []string{"", "", ""}},
		{"a", ',', []string{"a"}},
		{"a,,b", ',', []string{"a", "", "b"}},
		{",a", ',', []string{"", "a"}},
		{"a,", ',', []string{"a", ""}},
		{",a,", ',', []string{"", "a", ""}},
		{"a,b", ';', []string{"a,b"}},
		{"a b", ' ', []string{"a", "b"}},
		{"a\x00b", 0, []string{"a", "b"}},
		{"\xff\xff", 255, []string{"", "", ""}},
		{"é", 0xc3, []string{"", "\xa9"}},
		{"\xc3\xbf", 255, []string{"\xc3\xbf"}},
	} {
		if got := Split(c.s, c.sep); !slices.Equal(got, c.want) {
			t.Errorf("Split(%q, %q) = %q, not %q", c.s, c.sep, got, c.want)
		}
	}
}

// P1.2: the lists that are told are new memory each time.
func TestListsAreNew(t *testing.T) {
	for _, f := range []func() []string{
		func() []string { return Split("a,b,c", ',') },
		func() []string { return Blanks("a b c") },
	} {
		first, second := f(), f()
		for i := range first {
			first[i] = "changed"
		}
		_ = append(first, "changed")
		if want := []string{"a", "b", "c"}; !slices.Equal(second, want) || !slices.Equal(f(), want) {
			t.Errorf("a list shares memory with another: %q", second)
		}
	}
}

// P1.3: Number.
func TestNumber(t *testing.T) {
	for _, c := range []struct {
		s    string
		max  int
		want int
		ok   bool
	}{
		{"0", 9, 0, true},
		{"0", 1, 0, true},
		{"9", 1, 9, true},
		{"10", 2, 10, true},
		{"12", 2, 12, true},
		{"1234567890", 10, 1234567890, true},
		{"100", 18, 100, true},
		{"999999999999999999", 18, 999999999999999999, true},
		{"999999999999999999", 19, 999999999999999999, true},
		{"999999999999999999", math.MaxInt, 999999999999999999, true},

		{"", 9, 0, false},
		{"", 0, 0, false},
		{"", -1, 0, false},
		{"00", 9, 0, false},
		{"007", 9, 0, false},
		{"01", 2, 0, false},
		{"12", 1, 0, false},
		{"123", 2, 0, false},
		{"999999999999999999", 17, 0, false},
		{"1000000000000000000", 18, 0, false},
		{"1000000000000000000", 19, 0, false},
		{"1000000000000000000", 99, 0, false},
		{"5", 0, 0, false},
		{"5", -3, 0, false},
		{"0", 0, 0, false},
		{"5", math.MinInt, 0, false},
		{"-1", 9, 0, false},
		{"+1", 9, 0, false},
		{" 1", 9, 0, false},
		{"1 ", 9, 0, false},
		{"1a", 9, 0, false},
		{"a1", 9, 0, false},
		{"1_0", 9, 0, false},
		{"0x1", 9, 0, false},
		{"1.5", 9, 0, false},
		{"\u0661", 9, 0, false},
		{strings.Repeat("1", 1000), 1000, 0, false},
	} {
		if n, ok := Number(c.s, c.max); n != c.want || ok != c.ok {
			t.Errorf("Number(%q, %d) = %d, %v", c.s, c.max, n, ok)
		}
	}
}

// P1.3: Number takes the digits, and no other byte, at any place.
func TestNumberBytes(t *testing.T) {
	for i := range 256 {
		c := single(byte(i))
		digit := strings.Contains("0123456789", c)
		if _, ok := Number(c, 9); ok != digit {
			t.Errorf("Number(%q) tells %v", c, ok)
		}
		if n, ok := Number("1"+c, 9); ok != digit || ok && n != 10+i-'0' || !ok && n != 0 {
			t.Errorf("Number(%q) = %d, %v", "1"+c, n, ok)
		}
	}
}

// P1.3: Decimal.
func TestDecimal(t *testing.T) {
	for _, c := range []struct {
		n    int
		want string
	}{
		{0, "0"},
		{1, "1"},
		{-1, "-1"},
		{9, "9"},
		{10, "10"},
		{-10, "-10"},
		{100, "100"},
		{1000000007, "1000000007"},
		{math.MaxInt64, "9223372036854775807"},
		{math.MinInt64, "-9223372036854775808"},
		{math.MinInt64 + 1, "-9223372036854775807"},
	} {
		if got := Decimal(c.n); got != c.want {
			t.Errorf("Decimal(%d) = %q", c.n, got)
		}
	}
}

// P1.4: what Split cuts, joined again.
func TestSplitJoined(t *testing.T) {
	for _, sep := range []byte{',', 'a', 0, 0xc3, 255} {
		texts("a,\x00\xc3\xff", 5, func(s string) {
			parts := Split(s, sep)
			if got := strings.Join(parts, single(sep)); got != s {
				t.Errorf("Split(%q, %q), joined, is %q", s, sep, got)
			}
			if len(parts) != 1+strings.Count(s, single(sep)) {
				t.Errorf("Split(%q, %q) = %q", s, sep, parts)
			}
		})
	}
}

// P1.4: Number of Decimal.
func TestNumberOfDecimal(t *testing.T) {
	same := func(n int) {
		if got, ok := Number(Decimal(n), 18); got != n || !ok {
			t.Errorf("Number(Decimal(%d), 18) = %d, %v", n, got, ok)
		}
	}
	for n := range 20000 {
		same(n)
	}
	const end = 1_000_000_000_000_000_000
	for p := 1; p < end; p *= 10 {
		for d := 1; d <= 9; d++ {
			same(d*p - 1)
			same(d * p)
		}
	}
	same(end - 1)
	for _, n := range []int{-1, end, math.MaxInt, math.MinInt} {
		if got, ok := Number(Decimal(n), 18); got != 0 || ok {
			t.Errorf("Number(Decimal(%d), 18) = %d, %v", n, got, ok)
		}
	}
}
