package percent

import (
	"fmt"
	"math"
	"math/rand"
	"slices"
	"strings"
	"testing"
)

// some are the sets that there are.
func some() []Set { return []Set{Frag, Query, Path, User} }

// none are sets that there are not.
func none() []Set {
	return []Set{0, 5, 6, -1, -4, 255, 256 + 1, math.MinInt + 1, math.MinInt, math.MaxInt}
}

// list is the bytes from 33 to 126 that a set encodes, in the chapter's words.
func list(s Set) []byte {
	switch s {
	case Frag:
		return []byte{'"', '<', '>', 96}
	case Query:
		return []byte{'"', '#', '\'', '<', '>'}
	case Path:
		return []byte{'"', '#', '<', '>', '?', '^', 96, '{', '}'}
	case User:
		return append(list(Path), '/', ':', ';', '=', '@', '[', '\\', ']', '|')
	}
	return nil
}

// isIn is P9.1 in the chapter's words.
func isIn(c byte, s Set) bool {
	if s < 1 || s > 4 {
		return false
	}
	return c < 33 || c > 126 || slices.Contains(list(s), c)
}

// isEncoded is P9.2 in the chapter's words.
func isEncoded(s string, set Set) string {
	out := ""
	for _, c := range []byte(s) {
		if isIn(c, set) {
			out += fmt.Sprintf("%%%02X", c)
		} else {
			out += single(c)
		}
	}
	return out
}

// isDecoded is P9.2 in the chapter's words.
func isDecoded(s string) string {
	const hex = "0123456789abcdef"
	out := ""
	for i := 0; i < len(s); i++ {
		high, low := -1, -1
		if i+2 < len(s) {
			high = strings.IndexByte(hex, s[i+1]|lowered(s[i+1]))
			low = strings.IndexByte(hex, s[i+2]|lowered(s[i+2]))
		}
		if s[i] != '%' || high < 0 || low < 0 {
			out += single(s[i])
			continue
		}
		out += single(byte(16*high + low))
		i += 2
	}
	return out
}

// lowered is the bit that makes a capital a small letter, for capitals alone.
func lowered(c byte) byte {
	if 'A' <= c && c <= 'Z' {
		return 32
	}
	return 0
}

// single is the text of one byte.
func single(c byte) string { return string([]byte{c}) }

// texts calls f with every text of up to n bytes of the alphabet.
func texts(alphabet string, n int, f func(string)) {
	var grow func(string)
	grow = func(s string) {
		f(s)
		if len(s) == n {
			return
		}
		for i := range len(alphabet) {
			grow(s + alphabet[i:i+1])
		}
	}
	grow("")
}

// anyText is a text by chance, with many escapes and near-escapes.
func anyText(r *rand.Rand) string {
	const often = "%%%%0123456789abcdefABCDEFgG \"#'<>?^`{}/:;=@[\\]|\x7f\x80\xff\x00"
	b := make([]byte, r.Intn(40))
	for i := range b {
		b[i] = often[r.Intn(len(often))]
		if r.Intn(4) == 0 {
			b[i] = byte(r.Intn(256))
		}
	}
	return string(b)
}

// P9.1: the sets' numbers.
func TestSetNumbers(t *testing.T) {
	if got := fmt.Sprint(int(Frag), int(Query), int(Path), int(User)); got != "1 2 3 4" {
		t.Errorf("the sets are %s", got)
	}
}

// P9.1: every byte under every set.
func TestIn(t *testing.T) {
	for _, s := range some() {
		for i := range 256 {
			if c := byte(i); In(c, s) != isIn(c, s) {
				t.Errorf("In(%d, %d) = %v", c, s, In(c, s))
			}
		}
	}
}

// P9.1: how many bytes each set encodes: Query 167, Path 171.
func TestInCounts(t *testing.T) {
	for _, c := range []struct {
		s    Set
		want int
	}{{Frag, 166}, {Query, 167}, {Path, 171}, {User, 180}} {
		n := 0
		for i := range 256 {
			if In(byte(i), c.s) {
				n++
			}
		}
		if n != c.want {
			t.Errorf("set %d encodes %d bytes, not %d", c.s, n, c.want)
		}
	}
}

// P9.1: the ends of what every set encodes, and what none does.
func TestInEnds(t *testing.T) {
	for _, s := range some() {
		for _, c := range []byte{0, 1, 9, 31, 32, 127, 128, 254, 255} {
			if !In(c, s) {
				t.Errorf("In(%d, %d) is false", c, s)
			}
		}
		for _, c := range []byte("!$%&()*+,-.09AZ_az~") {
			if In(c, s) {
				t.Errorf("In(%q, %d) is true", c, s)
			}
		}
	}
}

// P9.1: User has all of Path.
func TestInUserHasPath(t *testing.T) {
	for i := range 256 {
		if c := byte(i); In(c, Path) && !In(c, User) {
			t.Errorf("Path encodes %d, User doesn't", c)
		}
	}
}

// P9.1: sets that there are not.
func TestInNoSet(t *testing.T) {
	for _, s := range none() {
		for i := range 256 {
			if In(byte(i), s) {
				t.Errorf("In(%d, %d) is true", i, s)
			}
		}
	}
}

// P9.2: Encode.
func TestEncode(t *testing.T) {
	for _, c := range []struct {
		s    string
		set  Set
		want string
	}{
		{"a b/?", Path, "a%20b/%3F"},
		{"a b/?", User, "a%20b%2F%3F"},
		{"a b/?", Query, "a%20b/?"},
		{"a b/?", Frag, "a%20b/?"},
		{"a b", 9, "a b"},
		{"\x00 \"\xff", 0, "\x00 \"\xff"},
		{"", Frag, ""},
		{"", User, ""},
		{"", 9, ""},
		{"%", User, "%"},
		{"%41%zz%2", User, "%41%zz%2"},
		{"\x00 !~\x7f\xff", Frag, "%00%20!~%7F%FF"},
		{"\x00 !~\x7f\xff", Query, "%00%20!~%7F%FF"},
		{"\x00 !~\x7f\xff", Path, "%00%20!~%7F%FF"},
		{"\x00 !~\x7f\xff", User, "%00%20!~%7F%FF"},
		{"é", Frag, "%C3%A9"},
		{"\xab\xcd\xef", Query, "%AB%CD%EF"},
		{"'`'", Query, "%27`%27"},
		{"'`'", Path, "'%60'"},
		{"a:b@[c]", User, "a%3Ab%40%5Bc%5D"},
		{"a:b@[c]", Path, "a:b@[c]"},
		{"{\\|^}", Path, "%7B\\|%5E%7D"},
		{"{\\|^}", User, "%7B%5C%7C%5E%7D"},
	} {
		if got := Encode(c.s, c.set); got != c.want {
			t.Errorf("Encode(%q, %d) = %q, not %q", c.s, c.set, got, c.want)
		}
	}
}

// P9.2: Encode of every single byte, alone and with others beside it.
func TestEncodeBytes(t *testing.T) {
	for _, set := range append(some(), none()...) {
		all := ""
		for i := range 256 {
			c := single(byte(i))
			all += c
			for _, s := range []string{c, "a" + c, c + "a", c + c, "%" + c} {
				if got, want := Encode(s, set), isEncoded(s, set); got != want {
					t.Errorf("Encode(%q, %d) = %q, not %q", s, set, got, want)
				}
			}
		}
		if got, want := Encode(all, set), isEncoded(all, set); got != want {
			t.Errorf("Encode of all bytes under %d is %q", set, got)
		}
	}
}

// P9.2: Decode.
func TestDecode(t *testing.T) {
	for _, c := range []struct{ s, want string }{
		{"%4a%zz%", "J%zz%"},
		{"", ""},
		{"%", "%"},
		{"%%", "%%"},
		{"%%%", "%%%"},
		{"a%", "a%"},
		{"%4", "%4"},
		{"a%4", "a%4"},
		{"%41", "A"},
		{"a%41b", "aAb"},
		{"%4a%4A%aF%Af%AF%af", "JJ\xaf\xaf\xaf\xaf"},
		{"%4g%g4%gg", "%4g%g4%gg"},
		{"%%41", "%A"},
		{"%4%41", "%4A"},
		{"%41%", "A%"},
		{"%41%4", "A%4"},
		{"%411", "A1"},
		{"%2541", "%41"},
		{"%25%34%31", "%41"},
		{"%%34%31", "%41"},
		{"%%341", "%41"},
		{"%25%", "%%"},
		{"%2", "%2"},
		{"%252525", "%2525"},
		{"%00%20%7f%FF", "\x00 \x7f\xff"},
		{"%0", "%0"},
		{"% 1%1 % 41", "% 1%1 % 41"},
		{"%-1%+1%0x41", "%-1%+1%0x41"},
		{"%\xc3\xa9", "%\xc3\xa9"},
		{"%c3%A9", "é"},
		{"+ \x00\xff~", "+ \x00\xff~"},
		{"%u0041", "%u0041"},
	} {
		if got := Decode(c.s); got != c.want {
			t.Errorf("Decode(%q) = %q, not %q", c.s, got, c.want)
		}
	}
}

// P9.2: Decode of every escape, in upper and in lower case.
func TestDecodeEscapes(t *testing.T) {
	for i := range 256 {
		for _, form := range []string{"%%%02x", "%%%02X"} {
			s := fmt.Sprintf(form, i)
			if got := Decode(s); got != single(byte(i)) {
				t.Errorf("Decode(%q) = %q", s, got)
			}
			if got := Decode("1" + s + "1" + s); got != "1"+single(byte(i))+"1"+single(byte(i)) {
				t.Errorf("Decode of %q between others is %q", s, got)
			}
		}
	}
}

// P9.2: Decode takes the 22 digits, and no other byte, at either place.
func TestDecodeDigits(t *testing.T) {
	for i := range 256 {
		c := single(byte(i))
		if got := Decode(c); got != c {
			t.Errorf("Decode(%q) = %q", c, got)
		}
		for _, s := range []string{"%" + c + "1", "%1" + c, "%" + c + "f", "%F" + c, "%" + c + c, "%" + c} {
			if got, want := Decode(s), isDecoded(s); got != want {
				t.Errorf("Decode(%q) = %q, not %q", s, got, want)
			}
		}
	}
	for _, c := range []byte{'0' - 1, '9' + 1, 'A' - 1, 'F' + 1, 'a' - 1, 'f' + 1} {
		for _, s := range []string{"%" + single(c) + "1", "%1" + single(c)} {
			if got := Decode(s); got != s {
				t.Errorf("Decode(%q) = %q", s, got)
			}
		}
	}
}

// P9.2: Decode of all short texts of some bytes.
func TestDecodeShort(t *testing.T) {
	texts("%2f4Bg5", 6, func(s string) {
		if got, want := Decode(s), isDecoded(s); got != want {
			t.Errorf("Decode(%q) = %q, not %q", s, got, want)
		}
	})
}

// P9.2: Same.
func TestSame(t *testing.T) {
	for _, c := range []struct {
		a, b string
		want bool
	}{
		{"a%62", "%61b", true},
		{"a", "A", false},
		{"", "", true},
		{"", "a", false},
		{"a", "", false},
		{"ab", "ab", true},
		{"ab", "a", false},
		{"ab", "ac", false},
		{"ab", "abc", false},
		{"%4a", "%4A", true},
		{"%4a", "J", true},
		{"%4a", "j", false},
		{"J", "%4a", true},
		{"%41", "%61", false},
		{"%25", "%", true},
		{"%2541", "%41", false},
		{"%2541", "%25%34%31", true},
		{"%2541", "A", false},
		{"%zz", "%zz", true},
		{"%zz", "%ZZ", false},
		{"%zz", "%25zz", true},
		{"%00", "\x00", true},
		{"%00", "", false},
		{"a%00", "a", false},
		{"%c3%a9", "é", true},
		{"%FF", "\xfe", false},
	} {
		if got := Same(c.a, c.b); got != c.want {
			t.Errorf("Same(%q, %q) = %v", c.a, c.b, got)
		}
		if got := Same(c.b, c.a); got != c.want {
			t.Errorf("Same(%q, %q) = %v", c.b, c.a, got)
		}
	}
}

// P9.2: Same is that Decode of both is equal.
func TestSameIsDecode(t *testing.T) {
	all := []string{}
	texts("%25A4", 4, func(s string) { all = append(all, s) })
	for _, a := range all {
		for _, b := range all {
			if got, want := Same(a, b), isDecoded(a) == isDecoded(b); got != want {
				t.Errorf("Same(%q, %q) = %v", a, b, got)
			}
		}
	}
}

// P9.4, and the whole of P9.2 for texts and sets by chance.
func TestByChance(t *testing.T) {
	r := rand.New(rand.NewSource(9))
	sets := append(some(), none()...)
	for range 100000 {
		s, set := anyText(r), sets[r.Intn(len(sets))]
		once := Encode(s, set)
		if want := isEncoded(s, set); once != want {
			t.Fatalf("Encode(%q, %d) = %q, not %q", s, set, once, want)
		}
		if got, want := Decode(s), isDecoded(s); got != want {
			t.Fatalf("Decode(%q) = %q, not %q", s, got, want)
		}
		if got, want := Decode(once), Decode(s); got != want {
			t.Fatalf("Decode(Encode(%q, %d)) = %q, not %q", s, set, got, want)
		}
		if got := Encode(once, set); got != once {
			t.Fatalf("Encode of %q under %d again is %q", once, set, got)
		}
		if !Same(s, once) {
			t.Fatalf("Same(%q, %q) is false", s, once)
		}
	}
}

// P9.4: all short texts of some bytes.
func TestEncodeThenDecode(t *testing.T) {
	for _, set := range append(some(), none()...) {
		texts("%2f \"\x80", 5, func(s string) {
			once := Encode(s, set)
			if got, want := Decode(once), Decode(s); got != want {
				t.Errorf("Decode(Encode(%q, %d)) = %q, not %q", s, set, got, want)
			}
			if got := Encode(once, set); got != once {
				t.Errorf("Encode of %q under %d again is %q", once, set, got)
			}
		})
	}
}

// P9.2: long texts take no longer than their length asks.
func TestLong(t *testing.T) {
	const n = 1 << 20
	if got := Encode(strings.Repeat(" a", n), Path); got != strings.Repeat("%20a", n) {
		t.Error("a long text is not encoded")
	}
	if got := Decode(strings.Repeat("%20a%", n)); got != strings.Repeat(" a%", n) {
		t.Error("a long text is not decoded")
	}
	if !Same(strings.Repeat("%20a", n), strings.Repeat(" %61", n)) {
		t.Error("long texts are not the same")
	}
	if !UTF8(strings.Repeat("é€", n)) || UTF8(strings.Repeat("é€", n)+"\x80") {
		t.Error("a long text is not told to be UTF-8, or a wrong one is")
	}
}
