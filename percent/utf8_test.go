package percent

import (
	"fmt"
	"math/rand"
	"testing"
)

// least and most are the first and the last code point of each length, in the
// order of RFC 3629, section 3.
var (
	least = [5]int{1: 0, 2: 0x80, 3: 0x800, 4: 0x10000}
	most  = [5]int{1: 0x7f, 2: 0x7ff, 3: 0xffff, 4: 0x10ffff}
)

// inBytes is the code point in n bytes, whether it may stand so or not.
func inBytes(point, n int) string {
	if n == 1 {
		return single(byte(point))
	}
	b := make([]byte, n)
	for i := n - 1; i > 0; i-- {
		b[i] = byte(128 + point%64)
		point /= 64
	}
	b[0] = byte(256 - 256>>n + point)
	return string(b)
}

// isPoint tells whether s is one code point, by its number.
func isPoint(s string) bool {
	n := len(s)
	if n < 1 || n > 4 {
		return false
	}
	point := int(s[0])
	if n > 1 {
		point -= 256 - 256>>n
		if point < 0 || point >= 128>>n {
			return false
		}
	}
	for _, c := range []byte(s[1:]) {
		if c < 128 || c >= 192 {
			return false
		}
		point = 64*point + int(c) - 128
	}
	return least[n] <= point && point <= most[n] && (point < 0xd800 || point > 0xdfff)
}

// isUTF8 is P9.3 in the chapter's words: s is a row of code points.
func isUTF8(s string) bool {
	for s != "" {
		n := 1
		for n <= len(s) && !isPoint(s[:n]) {
			n++
		}
		if n > len(s) {
			return false
		}
		s = s[n:]
	}
	return true
}

func checkUTF8(t *testing.T, s string, want bool) {
	t.Helper()
	if got := UTF8(s); got != want {
		t.Errorf("UTF8(%x) = %v", s, got)
	}
}

// checkAmong looks at s alone, and with valid texts ahead of it and behind it.
func checkAmong(t *testing.T, s string, want bool) {
	t.Helper()
	for _, ahead := range []string{"", "a", "é", "€", "\U00010000"} {
		for _, behind := range []string{"", "a", "é", "€", "\U0010ffff"} {
			checkUTF8(t, ahead+s+behind, want)
		}
	}
}

// P9.3: UTF8.
func TestUTF8(t *testing.T) {
	for _, c := range []struct {
		s    string
		want bool
	}{
		{"", true},
		{"a", true},
		{"\x00", true},
		{"\x7f", true},
		{"\xc2\x80", true},
		{"\xdf\xbf", true},
		{"\xe0\xa0\x80", true},
		{"\xed\x9f\xbf", true},
		{"\xee\x80\x80", true},
		{"\xef\xbf\xbd", true},
		{"\xef\xbf\xbf", true},
		{"\xf0\x90\x80\x80", true},
		{"\xf4\x8f\xbf\xbf", true},
		{"\xef\xbb\xbfa", true}, // a byte order mark is a code point as any other

		{"\xed\xa0\x80", false},
		{"\xed\xbf\xbf", false},
		{"\xed\xa0\x80\xed\xb0\x80", false},
		{"\xf4\x90\x80\x80", false},
		{"\xc0\x80", false},
		{"\xc1\xbf", false},
		{"\xe0\x80\x80", false},
		{"\xe0\x9f\xbf", false},
		{"\xf0\x80\x80\x80", false},
		{"\xf0\x8f\xbf\xbf", false},
		{"\xf8\x88\x80\x80\x80", false},
		{"\xfc\x84\x80\x80\x80\x80", false},
		{"\xfe", false},
		{"\xff", false},
		{"\x80", false},
	} {
		checkAmong(t, c.s, c.want)
	}
}

// P9.3: the first and the last code point of each length, and those beside the
// ones that there are not.
func TestUTF8Ends(t *testing.T) {
	for n := 1; n <= 4; n++ {
		checkAmong(t, inBytes(least[n], n), true)
		checkAmong(t, inBytes(most[n], n), true)
	}
	for _, point := range []int{0xd7ff, 0xe000} {
		checkAmong(t, inBytes(point, 3), true)
	}
	for _, point := range []int{0xd800, 0xdbff, 0xdc00, 0xdfff} {
		checkAmong(t, inBytes(point, 3), false)
	}
	for _, point := range []int{0x110000, 0x13ffff, 0x140000, 0x1fffff} {
		checkAmong(t, inBytes(point, 4), false)
	}
}

// P9.3: every code point in each length into which it fits.
func TestUTF8Points(t *testing.T) {
	for n := 1; n <= 4; n++ {
		for point := range most[n] + 1 {
			want := point >= least[n] && (point < 0xd800 || point > 0xdfff)
			if s := inBytes(point, n); UTF8(s) != want {
				t.Fatalf("UTF8 of %x in %d bytes, %x, is %v", point, n, s, !want)
			}
		}
	}
}

// P9.3: bytes that cannot begin a code point.
func TestUTF8Begin(t *testing.T) {
	for i := range 256 {
		c := single(byte(i))
		checkAmong(t, c, i < 0x80)
		begins := i < 0x80 || i >= 0xc2 && i < 0xf5
		found := UTF8(c) || UTF8(c+"\x80") || UTF8(c+"\xa0\x80") || UTF8(c+"\x80\x80") ||
			UTF8(c+"\x90\x80\x80") || UTF8(c+"\x80\x80\x80")
		if found != begins {
			t.Errorf("that %x begins a code point is %v", i, found)
		}
	}
}

// ends are code points of each length at which something turns.
func ends() []string {
	var l []string
	for n := 2; n <= 4; n++ {
		l = append(l, inBytes(least[n], n), inBytes(most[n], n))
	}
	return append(l, inBytes(0xd7ff, 3), inBytes(0xe000, 3), inBytes(0x1f600, 4))
}

// P9.3: code points that are cut off.
func TestUTF8Cut(t *testing.T) {
	for _, s := range ends() {
		for n := 1; n < len(s); n++ {
			checkAmong(t, s[:n], false)
			checkAmong(t, s[:n]+s, false)
			checkAmong(t, s[n:], false)
			checkAmong(t, s+s[n:], false)
		}
	}
}

// P9.3: code points with another byte at each of their places.
func TestUTF8Changed(t *testing.T) {
	for _, s := range ends() {
		for at := range len(s) {
			for i := range 256 {
				b := []byte(s)
				b[at] = byte(i)
				if at > 0 && (i < 0x80 || i > 0xbf) {
					checkAmong(t, string(b), false)
				}
				checkAmong(t, string(b), isUTF8(string(b)))
			}
		}
	}
}

// P9.3: all texts of up to two bytes, and of three and four beside the ends of
// the bytes' ranges.
func TestUTF8Short(t *testing.T) {
	all := ""
	for i := range 256 {
		all += single(byte(i))
	}
	check := func(s string) { checkUTF8(t, s, isUTF8(s)) }
	texts(all, 2, check)
	texts("a\x7f\x80\x8f\x90\x9f\xa0\xbf\xc0\xc1\xc2\xdf\xe0\xe1\xec\xed\xee\xef\xf0\xf1\xf3\xf4\xf5\xff", 4, check)
}

// P9.3: texts by chance.
func TestUTF8ByChance(t *testing.T) {
	r := rand.New(rand.NewSource(10))
	for range 100000 {
		s := ""
		for range r.Intn(8) {
			n := 1 + r.Intn(4)
			s += inBytes(least[n]+r.Intn(most[n]-least[n]+1), n)
		}
		b := []byte(s)
		if len(b) > 0 && r.Intn(2) == 0 {
			b[r.Intn(len(b))] = byte(r.Intn(256))
		}
		if len(b) > 0 && r.Intn(4) == 0 {
			b = b[:r.Intn(len(b))]
		}
		if got, want := UTF8(string(b)), isUTF8(string(b)); got != want {
			t.Fatalf("UTF8(%s) = %v", fmt.Sprintf("%x", b), got)
		}
	}
}
