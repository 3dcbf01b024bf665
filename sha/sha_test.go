package sha

import (
	"bytes"
	"crypto/sha256"
	"slices"
	"strings"
	"testing"
)

// some are n bytes of which no two blocks are alike.
func some(n int) []byte {
	b := make([]byte, n)
	x := uint32(n)
	for i := range b {
		x = 1664525*x + 1013904223
		b[i] = byte(x >> 24)
	}
	return b
}

// edges are the lengths at which the last block is full, or has no room for the length.
func edges() []int {
	return []int{0, 1, 54, 55, 56, 57, 62, 63, 64, 65, 118, 119, 120, 121, 127, 128, 129, 183, 184, 191, 192, 193}
}

// P2.1: hashes that FIPS 180-4 and its examples tell.
func TestSumKnown(t *testing.T) {
	for _, c := range []struct{ s, want string }{
		{"", "e3b0c44298fc1c149afbf4c8996fb92427ae41e4649b934ca495991b7852b855"},
		{"abc", "ba7816bf8f01cfea414140de5dae2223b00361a396177a9cb410ff61f20015ad"},
		{
			"abcdbcdecdefdefgefghfghighijhijkijkljklmklmnlmnomnopnopq",
			"248d6a61d20638b8e5c026930c3e6039a33ce45964ff2167f6ecedd419db06c1",
		},
		{
			"abcdefghbcdefghicdefghijdefghijkefghijklfghijklmghijklmn" +
				"hijklmnoijklmnopjklmnopqklmnopqrlmnopqrsmnopqrstnopqrstu",
			"cf5b16a778af8380036ce59e7b0492370b249b11e8f07a51afac45037afee9d1",
		},
		{
			strings.Repeat("a", 1000000),
			"cdc76e5c9914fb9281a1c7e284d73e67f1809a48a497200e046d39ccc7112cd0",
		},
	} {
		if got := Sum([]byte(c.s)).Text(); got != c.want {
			t.Errorf("Sum of %d bytes is %s, not %s", len(c.s), got, c.want)
		}
	}
	for _, c := range []struct {
		h    Hash
		want []byte
	}{
		{Sum(), []byte{0xe3, 0xb0, 0xc4, 0x42}},
		{Sum([]byte("abc")), []byte{0xba, 0x78, 0x16, 0xbf}},
	} {
		if !bytes.HasPrefix(c.h[:], c.want) {
			t.Errorf("% x doesn't begin with % x", c.h, c.want)
		}
	}
}

// P2.1: every length about the ends of the first blocks, zeros and other bytes.
func TestSumLengths(t *testing.T) {
	for n := range 700 {
		for _, b := range [][]byte{some(n), make([]byte, n), bytes.Repeat([]byte{0xff}, n)} {
			if got, want := Sum(b), Hash(sha256.Sum256(b)); got != want {
				t.Errorf("Sum of %d bytes is %s", n, got.Text())
			}
		}
	}
}

// P2.1: every byte, alone and within others.
func TestSumBytes(t *testing.T) {
	for i := range 256 {
		for _, b := range [][]byte{{byte(i)}, {'a', byte(i), 0}} {
			if got, want := Sum(b), Hash(sha256.Sum256(b)); got != want {
				t.Errorf("Sum of % x is %s", b, got.Text())
			}
		}
	}
}

// P2.1: parts count as one text, none and nil ones as nothing.
func TestSumParts(t *testing.T) {
	abc := Sum([]byte("abc"))
	for _, parts := range [][][]byte{
		{[]byte("abc")},
		{[]byte("a"), []byte("bc")},
		{[]byte("a"), nil, []byte("bc")},
		{nil, []byte("ab"), {}, []byte("c"), nil},
		{[]byte("a"), []byte("b"), []byte("c")},
	} {
		if got := Sum(parts...); got != abc {
			t.Errorf("Sum(%q) = %s", parts, got.Text())
		}
	}
	for _, parts := range [][][]byte{nil, {}, {nil}, {{}}, {nil, {}, nil}} {
		if got := Sum(parts...); got != Sum([]byte("")) {
			t.Errorf("Sum(%q) = %s", parts, got.Text())
		}
	}
	if Sum([]byte("bc"), []byte("a")) == abc {
		t.Error("the order of parts doesn't count")
	}
}

// P2.1: parts against their concatenation, cut at each place.
func TestSumCuts(t *testing.T) {
	for _, n := range edges() {
		b := some(n)
		want := Hash(sha256.Sum256(b))
		for i := range n + 1 {
			if got := Sum(b[:i], b[i:]); got != want {
				t.Errorf("Sum of %d bytes, cut at %d, is %s", n, i, got.Text())
			}
			if got := Sum(b[:i/2], b[i/2:i], b[i:]); got != want {
				t.Errorf("Sum of %d bytes, cut at %d and %d, is %s", n, i/2, i, got.Text())
			}
		}
	}
}

// P2.1: a text whose length in bits takes more than 32 bits.
func TestSumLong(t *testing.T) {
	if testing.Short() {
		t.Skip("takes seconds")
	}
	part := some(1 << 20)
	d, reference := New(), sha256.New()
	for range 1 << 9 {
		d.Write(part)
		reference.Write(part)
	}
	if got := d.Sum(); !bytes.Equal(got[:], reference.Sum(nil)) {
		t.Errorf("Sum of 2^29 bytes is %s", got.Text())
	}
}

// P2.2: Text.
func TestText(t *testing.T) {
	zero := strings.Repeat("0", 64)
	if got := (Hash{}).Text(); got != zero {
		t.Errorf("Text of the zero Hash is %q", got)
	}
	h := Hash{0x01, 0x23, 0x45, 0x67, 0x89, 0xab, 0xcd, 0xef, 31: 0xf0}
	if got, want := h.Text(), "0123456789abcdef"+zero[:46]+"f0"; got != want {
		t.Errorf("Text is %q, not %q", got, want)
	}
}

// P2.2: Text and Parse, each byte at each place.
func TestParseOfText(t *testing.T) {
	const digits = "0123456789abcdef"
	zero := strings.Repeat("0", 64)
	for at := range 32 {
		for c := range 256 {
			var h Hash
			h[at] = byte(c)
			want := zero[:2*at] + digits[c/16:c/16+1] + digits[c%16:c%16+1] + zero[2*at+2:]
			if got := h.Text(); got != want {
				t.Errorf("Text with byte %d at %d is %q", c, at, got)
			}
			if got, ok := Parse(want); got != h || !ok {
				t.Errorf("Parse(%q) = % x, %v", want, got, ok)
			}
		}
	}
	for n := range 100 {
		h := Sum(some(n))
		if got, ok := Parse(h.Text()); got != h || !ok {
			t.Errorf("Parse(%q) = % x, %v", h.Text(), got, ok)
		}
	}
}

// P2.2: Parse of what is no Text.
func TestParseWrong(t *testing.T) {
	text := Sum([]byte("abc")).Text()
	for _, s := range []string{
		"",
		"b",
		"ba",
		text[1:],
		text[:63],
		text[:62],
		text + "0",
		text + "00",
		"0" + text,
		text + text,
		strings.ToUpper(text),
		"B" + text[1:],
		text[:63] + "D",
		"g" + text[1:],
		text[:63] + "x",
		text[:63] + " ",
		text + " ",
		" " + text,
		" " + text[1:],
		text + "\n",
		"0x" + text,
		"0x" + text[2:],
		"-" + text[1:],
		text[:31] + "_" + text[32:],
		text[:32] + "\u0661" + text[34:],
		strings.Repeat("g", 64),
		strings.Repeat("\x00", 64),
		strings.Repeat("\xff", 64),
		strings.Repeat("a", 1000),
	} {
		if h, ok := Parse(s); h != (Hash{}) || ok {
			t.Errorf("Parse(%q) = % x, %v", s, h, ok)
		}
	}
}

// P2.2: Parse takes the digits, and no other byte, at any place.
func TestParseBytes(t *testing.T) {
	text := Sum([]byte("abc")).Text()
	for i := range 256 {
		c := string([]byte{byte(i)})
		want := strings.Contains("0123456789abcdef", c)
		for at := range 64 {
			s := text[:at] + c + text[at+1:]
			h, ok := Parse(s)
			if ok != want || ok && h.Text() != s || !ok && h != (Hash{}) {
				t.Errorf("Parse(%q) = % x, %v", s, h, ok)
			}
		}
	}
}

// P2.3: what was written in parts, whole, byte by byte and by words.
func TestWrite(t *testing.T) {
	for _, n := range edges() {
		b := some(n)
		for _, step := range []int{1, 2, 3, 7, 32, 55, 56, 63, 64, 65, 128, 1000} {
			d := New()
			for part := range slices.Chunk(b, step) {
				d.Write(part)
			}
			if got := d.Sum(); got != Sum(b) {
				t.Errorf("%d bytes by %d: %s", n, step, got.Text())
			}
		}
	}
}

// P2.3: writes that end within a block, at its end and beyond it.
func TestWriteCuts(t *testing.T) {
	b := some(193)
	for i := range len(b) + 1 {
		d := New()
		d.Write(b[:i])
		d.Write(nil)
		d.Write([]byte{})
		d.Write(b[i:])
		if got, want := d.Sum(), Hash(sha256.Sum256(b)); got != want {
			t.Errorf("cut at %d: %s", i, got.Text())
		}
	}
}

// P2.3: Sum after each byte, and more bytes thereafter.
func TestSumBetweenWrites(t *testing.T) {
	b := some(300)
	d := New()
	for i := range b {
		want := Hash(sha256.Sum256(b[:i]))
		if first, second := d.Sum(), d.Sum(); first != want || second != want {
			t.Errorf("after %d bytes: %s, %s", i, first.Text(), second.Text())
		}
		d.Write(b[i : i+1])
	}
	for _, n := range edges() {
		d := New()
		d.Write(b[:n])
		d.Sum()
		d.Write([]byte("more"))
		if got := d.Sum(); got != Sum(b[:n], []byte("more")) {
			t.Errorf("%d bytes and more: %s", n, got.Text())
		}
	}
}

// P2.3: a nil Digest stays empty.
func TestNilDigest(t *testing.T) {
	var d *Digest
	if got := d.Sum(); got != Sum() {
		t.Errorf("Sum is %s", got.Text())
	}
	d.Write(nil)
	d.Write([]byte("a"))
	d.Write(some(200))
	if got := d.Sum(); got != Sum() {
		t.Errorf("Sum after Write is %s", got.Text())
	}
}

// P2.3: the zero Digest is as good as a new one.
func TestZeroDigest(t *testing.T) {
	if New() == nil {
		t.Fatal("New is nil")
	}
	for _, d := range []*Digest{New(), {}} {
		if got := d.Sum(); got != Sum() {
			t.Errorf("Sum of nothing is %s", got.Text())
		}
		d.Write(nil)
		if got := d.Sum(); got != Sum() {
			t.Errorf("Sum of nil is %s", got.Text())
		}
		d.Write([]byte("abc"))
		if got := d.Sum(); got != Sum([]byte("abc")) {
			t.Errorf("Sum of abc is %s", got.Text())
		}
	}
}

// P2.3: Digests know nothing of each other.
func TestDigestsApart(t *testing.T) {
	a, b := New(), New()
	for i := range 150 {
		a.Write([]byte{byte(i)})
		b.Write([]byte{byte(i), 1})
	}
	fork := *a
	fork.Write([]byte("fork"))
	var x, y []byte
	for i := range 150 {
		x = append(x, byte(i))
		y = append(y, byte(i), 1)
	}
	if a.Sum() != Sum(x) || b.Sum() != Sum(y) || fork.Sum() != Sum(x, []byte("fork")) {
		t.Error("a Digest takes what was written to another")
	}
	if New().Sum() != Sum() {
		t.Error("a new Digest isn't empty")
	}
}

// P2.4: arguments stay as they are, their spare capacity too.
func TestArgumentsUnchanged(t *testing.T) {
	for _, n := range edges() {
		whole := some(n + 200)
		before := bytes.Clone(whole)
		d := New()
		d.Write(whole[:n])
		d.Sum()
		d.Write(whole[:n/2])
		Sum(whole[:n])
		Sum(whole[:n], whole[:n/2])
		if !bytes.Equal(whole, before) {
			t.Errorf("the %d bytes or those behind them were changed", n)
		}
	}
	list := [][]byte{[]byte("a"), []byte("b"), []byte("c"), nil}
	Sum(list[:2]...)
	for i, want := range []string{"a", "b", "c", ""} {
		if string(list[i]) != want {
			t.Errorf("part %d became %q", i, list[i])
		}
	}
}

// P2.4: what is changed after a call doesn't count.
func TestArgumentsNotKept(t *testing.T) {
	for _, n := range edges() {
		b := some(n)
		want := Hash(sha256.Sum256(b))
		d := New()
		d.Write(b)
		clear(b)
		if got := d.Sum(); got != want {
			t.Errorf("after %d bytes were cleared: %s", n, got.Text())
		}
	}
	b := []byte("abc")
	first := Sum(b)
	clear(b)
	if text := first.Text(); first != Sum([]byte("abc")) || text != Sum([]byte("abc")).Text() {
		t.Errorf("a hash became %s", text)
	}
}

// P2.4: parts may share their memory.
func TestPartsShared(t *testing.T) {
	b := some(100)
	if Sum(b, b[50:], b) != Sum(slices.Concat(b, b[50:], b)) {
		t.Error("parts of one memory are not hashed as others")
	}
}
