package frame

import (
	"bytes"
	"hash/crc32"
	"slices"
	"strings"
	"testing"

	"parapet/api"
)

// some are n bytes of which no two words are alike.
func some(n int) []byte {
	b := make([]byte, n)
	x := uint32(n)
	for i := range b {
		x = 1664525*x + 1013904223
		b[i] = byte(x >> 24)
	}
	return b
}

// put is the frame of what has room in one.
func put(t *testing.T, payload ...[]byte) []byte {
	t.Helper()
	f, ok := Put(payload...)
	if !ok {
		t.Fatal("Put tells false")
	}
	return f
}

// framed is what a frame is by its description, made by other means.
func framed(payload []byte) []byte {
	n := len(payload)
	size := []byte{byte(n >> 24), byte(n >> 16), byte(n >> 8), byte(n)}
	sum := crc32.ChecksumIEEE(slices.Concat(size, payload))
	return slices.Concat(size, []byte{byte(sum >> 24), byte(sum >> 16), byte(sum >> 8), byte(sum)}, payload)
}

// isNext holds what Next tells of b against what it should.
func isNext(t *testing.T, b, payload []byte, n, kind int) {
	t.Helper()
	p, m, k := Next(b)
	if !bytes.Equal(p, payload) || m != n || k != kind {
		t.Errorf("Next of %d bytes, % x..: %d bytes, %d, kind %d; not %d bytes, %d, kind %d",
			len(b), b[:min(len(b), 12)], len(p), m, k, len(payload), n, kind)
	}
}

// isScan holds what Scan tells of b against what it should.
func isScan(t *testing.T, b []byte, payloads [][]byte, n, kind int) {
	t.Helper()
	p, m, k := Scan(b)
	if !slices.EqualFunc(p, payloads, bytes.Equal) || m != n || k != kind {
		t.Errorf("Scan of %d bytes: %q, %d, kind %d; not %q, %d, kind %d", len(b), p, m, k, payloads, n, kind)
	}
}

// P3.1: sums that are known.
func TestCRCKnown(t *testing.T) {
	for _, c := range []struct {
		s    string
		want uint32
	}{
		{"", 0},
		{"a", 0xe8b7be43},
		{"abc", 0x352441c2},
		{"123456789", 0xcbf43926},
		{"The quick brown fox jumps over the lazy dog", 0x414fa339},
		{"\x00\x00\x00\x00", 0x2144df1c},
		{"\xff\xff\xff\xff", 0xffffffff},
		{strings.Repeat("\x00", 32), 0x190a55ad},
		{strings.Repeat("\xff", 32), 0xff6cab0b},
	} {
		if got := CRC([]byte(c.s)); got != c.want {
			t.Errorf("CRC(%q) = %08x, not %08x", c.s, got, c.want)
		}
	}
}

// P3.1: no parts, and parts of nothing.
func TestCRCOfNothing(t *testing.T) {
	for _, parts := range [][][]byte{nil, {}, {nil}, {{}}, {nil, {}, nil}} {
		if got := CRC(parts...); got != 0 {
			t.Errorf("CRC(%q) = %08x", parts, got)
		}
	}
}

// P3.1: parts count as one text, however it is cut.
func TestCRCParts(t *testing.T) {
	b := []byte("123456789")
	for i := range len(b) + 1 {
		for j := i; j <= len(b); j++ {
			if got := CRC(b[:i], nil, b[i:j], []byte{}, b[j:]); got != 0xcbf43926 {
				t.Errorf("CRC, cut at %d and %d, is %08x", i, j, got)
			}
		}
	}
	if got := CRC(slices.Collect(slices.Chunk(b, 1))...); got != 0xcbf43926 {
		t.Errorf("CRC, byte by byte, is %08x", got)
	}
	if CRC([]byte("56789"), []byte("1234")) == 0xcbf43926 {
		t.Error("the order of parts doesn't count")
	}
}

// P3.1: every byte, alone and within others, and texts of many lengths.
func TestCRCBytes(t *testing.T) {
	for i := range 256 {
		for _, b := range [][]byte{{byte(i)}, {'a', byte(i), 0}, some(i), make([]byte, i), some(1000 + i)} {
			if got, want := CRC(b), crc32.ChecksumIEEE(b); got != want {
				t.Errorf("CRC(% x) = %08x, not %08x", b, got, want)
			}
		}
	}
}

// P3.2: a frame, byte by byte.
func TestPut(t *testing.T) {
	for _, c := range []struct {
		parts [][]byte
		want  string
	}{
		{[][]byte{[]byte("a")}, "\x00\x00\x00\x01\xe5\x8c\x97\x92a"},
		{nil, "\x00\x00\x00\x00\x21\x44\xdf\x1c"},
		{[][]byte{nil}, "\x00\x00\x00\x00\x21\x44\xdf\x1c"},
		{[][]byte{{}, nil, {}}, "\x00\x00\x00\x00\x21\x44\xdf\x1c"},
		{[][]byte{nil, []byte("a"), {}}, "\x00\x00\x00\x01\xe5\x8c\x97\x92a"},
	} {
		if f, ok := Put(c.parts...); string(f) != c.want || !ok {
			t.Errorf("Put(%q) = % x, %v", c.parts, f, ok)
		}
	}
	hello := put(t, []byte("hello"))
	for _, parts := range [][]string{{"hel", "lo"}, {"", "h", "ello", ""}, {"h", "e", "l", "l", "o"}} {
		var list [][]byte
		for _, s := range parts {
			list = append(list, []byte(s))
		}
		if f := put(t, list...); !bytes.Equal(f, hello) {
			t.Errorf("Put(%q) = % x", parts, f)
		}
	}
	if f := put(t, []byte("lo"), []byte("hel")); string(f[8:]) != "lohel" {
		t.Errorf("the parts are not in order: %q", f[8:])
	}
}

// P3.2: lengths that take each byte of the number.
func TestPutLengths(t *testing.T) {
	for _, n := range []int{0, 1, 2, 7, 127, 128, 255, 256, 257, 4000, 65535, 65536, 65793, api.MaxFrame - 1, api.MaxFrame} {
		b := some(n)
		if f := put(t, b[:n/3], b[n/3:]); !bytes.Equal(f, framed(b)) {
			t.Errorf("Put of %d bytes is % x..", n, f[:8])
		}
	}
}

// P3.2: as much as a frame has room for, and one byte more.
func TestPutTooBig(t *testing.T) {
	b := make([]byte, api.MaxFrame+1)
	for _, parts := range [][][]byte{
		{b},
		{b[1:], {1}},
		{{1}, b[1:]},
		{b[:1000], b[1000:]},
		{b[1:], nil, {1}, nil},
		{b[1:], b[1:]},
		{b, b, b},
	} {
		if f, ok := Put(parts...); f != nil || ok {
			t.Errorf("Put of %d parts: %d bytes, %v", len(parts), len(f), ok)
		}
	}
	for _, parts := range [][][]byte{{b[1:]}, {b[1:], nil}, {b[:1000], b[1001:]}, slices.Collect(slices.Chunk(b[1:], 1))} {
		if f, ok := Put(parts...); len(f) != 8+api.MaxFrame || !ok {
			t.Errorf("Put of %d parts: %d bytes, %v", len(parts), len(f), ok)
		}
	}
}

// P3.3: a whole frame, with nothing and with more behind it.
func TestNextWhole(t *testing.T) {
	for _, n := range []int{0, 1, 2, 5, 255, 256, 4000, 65536, api.MaxFrame} {
		b := some(n)
		f := framed(b)
		for _, more := range [][]byte{nil, {7}, {0}, {0xff, 0, 0, 0}, f} {
			isNext(t, slices.Concat(f, more), b, 8+n, Whole)
		}
	}
}

// P3.3: less than a length.
func TestNextWithoutLength(t *testing.T) {
	for _, b := range [][]byte{
		nil, {}, {0}, {0, 0}, {0, 0, 0}, {0, 0, 1},
		{0xff}, {0xff, 0}, {0xff, 0, 0}, {0xff, 0xff, 0xff}, {0, 2, 0}, {0, 3, 0},
	} {
		isNext(t, b, nil, 0, Torn)
	}
}

// P3.3: lengths about the limit, in a text that is shorter than a frame and in
// one that is longer.
func TestNextLengthAboveLimit(t *testing.T) {
	for _, c := range []struct {
		size []byte
		kind int
	}{
		{[]byte{0, 0, 0, 0}, Torn},
		{[]byte{0, 0, 0, 1}, Torn},
		{[]byte{0, 1, 0xff, 0xff}, Torn},
		{[]byte{0, 2, 0, 0}, Torn},
		{[]byte{0, 2, 0, 1}, Bad},
		{[]byte{0, 2, 1, 0}, Bad},
		{[]byte{0, 3, 0, 0}, Bad},
		{[]byte{1, 0, 0, 0}, Bad},
		{[]byte{0x7f, 0xff, 0xff, 0xff}, Bad},
		{[]byte{0x80, 0, 0, 0}, Bad},
		{[]byte{0x80, 0, 0, 1}, Bad},
		{[]byte{0xff, 0, 0, 0}, Bad},
		{[]byte{0xff, 0xff, 0xff, 0xf8}, Bad},
		{[]byte{0xff, 0xff, 0xff, 0xff}, Bad},
	} {
		for _, more := range []int{0, 1, 3} {
			isNext(t, slices.Concat(c.size, make([]byte, more)), nil, 0, c.kind)
		}
		if c.kind == Bad {
			isNext(t, slices.Concat(c.size, some(api.MaxFrame+100)), nil, 0, Bad)
		}
	}
	isNext(t, framed(make([]byte, api.MaxFrame+1)), nil, 0, Bad)
}

// P3.3: a frame that is cut at each of its bytes.
func TestNextCut(t *testing.T) {
	for _, n := range []int{0, 1, 5, 300} {
		f := framed(some(n))
		for i := range f {
			isNext(t, f[:i], nil, 0, Torn)
		}
	}
	f := framed(some(api.MaxFrame))
	for _, i := range []int{4, 7, 8, 100, len(f) - 1} {
		isNext(t, f[:i], nil, 0, Torn)
	}
}

// P3.3: the end of a frame counts ahead of its checksum.
func TestNextTornAheadOfBad(t *testing.T) {
	f := framed([]byte("hello"))
	for at := 4; at < len(f); at++ {
		b := bytes.Clone(f)
		b[at] ^= 0x10
		isNext(t, b[:len(b)-1], nil, 0, Torn)
		isNext(t, b, nil, 0, Bad)
		isNext(t, slices.Concat(b, f), nil, 0, Bad)
	}
}

// P3.3: checksums that are not of the length and the payload, in this order.
func TestNextWrongChecksum(t *testing.T) {
	for _, sum := range []uint32{
		0,
		0xffffffff,
		crc32.ChecksumIEEE([]byte("a")),
		^crc32.ChecksumIEEE([]byte("\x00\x00\x00\x01a")),
		crc32.ChecksumIEEE([]byte("a\x00\x00\x00\x01")),
		crc32.ChecksumIEEE([]byte("\x00\x00\x00\x01")),
	} {
		b := []byte{0, 0, 0, 1, byte(sum >> 24), byte(sum >> 16), byte(sum >> 8), byte(sum), 'a'}
		isNext(t, b, nil, 0, Bad)
	}
	f := framed([]byte("a"))
	slices.Reverse(f[4:8])
	isNext(t, f, nil, 0, Bad)
}

// P3.4: whole frames, and nothing.
func TestScanWhole(t *testing.T) {
	isScan(t, nil, nil, 0, Whole)
	isScan(t, []byte{}, nil, 0, Whole)
	var all []byte
	var payloads [][]byte
	for _, n := range []int{1, 5, 0, 0, 300, 1, 65536} {
		payloads = append(payloads, some(n))
		all = append(all, framed(some(n))...)
		isScan(t, all, payloads, len(all), Whole)
	}
}

// P3.4, P3.5: a row of frames that is cut off at each byte.
func TestScanCut(t *testing.T) {
	var all []byte
	var payloads [][]byte
	ends := []int{0}
	for _, n := range []int{1, 5, 0, 30, 0} {
		payloads = append(payloads, some(n))
		all = append(all, framed(some(n))...)
		ends = append(ends, len(all))
	}
	for i := range len(all) + 1 {
		whole, atEnd := slices.BinarySearch(ends, i)
		kind := Whole
		if !atEnd {
			whole--
			kind = Torn
		}
		isScan(t, all[:i], payloads[:whole], ends[whole], kind)
	}
}

// P3.4: something else behind whole frames.
func TestScanBad(t *testing.T) {
	a, hello := framed([]byte("a")), framed([]byte("hello"))
	payloads := [][]byte{[]byte("a"), []byte("hello")}
	wrong := bytes.Clone(hello)
	wrong[12] ^= 1
	for _, c := range []struct {
		rest []byte
		kind int
	}{
		{[]byte{0, 0}, Torn},
		{[]byte{0xff, 0, 0}, Torn},
		{[]byte{0, 0, 0, 0}, Torn},
		{[]byte{0xff, 0, 0, 0}, Bad},
		{[]byte{0, 2, 0, 1}, Bad},
		{make([]byte, 8), Bad},
		{wrong[:12], Torn},
		{wrong, Bad},
		{slices.Concat(wrong, a), Bad},
		{slices.Concat([]byte{7}, a), Bad},
	} {
		isScan(t, c.rest, nil, 0, c.kind)
		isScan(t, slices.Concat(a, c.rest), payloads[:1], len(a), c.kind)
		isScan(t, slices.Concat(a, hello, c.rest), payloads, len(a)+len(hello), c.kind)
	}
}

// P3.4: Scan tells what Next does, one after the other.
func TestScanIsNext(t *testing.T) {
	b := slices.Concat(framed(some(3)), framed(nil), framed(some(70)), some(20))
	var payloads [][]byte
	at := 0
	for {
		payload, n, kind := Next(b[at:])
		if kind != Whole {
			isScan(t, b, payloads, at, kind)
			return
		}
		payloads = append(payloads, payload)
		at += n
	}
}

// P3.5: Next of what Put made.
func TestNextOfPut(t *testing.T) {
	for n := range 600 {
		b := some(n)
		f := put(t, b[:n/2], b[n/2:])
		isNext(t, f, b, len(f), Whole)
		isScan(t, slices.Concat(f, f), [][]byte{b, b}, 2*len(f), Whole)
	}
	b := some(api.MaxFrame)
	f := put(t, b)
	isNext(t, f, b, len(f), Whole)
}

// P3.5: each byte of a frame, changed to each other one.
func TestNextOfChanged(t *testing.T) {
	for _, n := range []int{0, 1, 5, 40} {
		payload := some(n)
		f := framed(payload)
		behind := slices.Concat(f, some(300))
		for at := range f {
			for x := 1; x < 256; x++ {
				b := bytes.Clone(f)
				b[at] ^= byte(x)
				if p, m, kind := Next(b); kind == Whole || m != 0 || len(p) > 0 {
					t.Errorf("%d bytes, byte %d changed by %d: %d, kind %d", n, at, x, m, kind)
				}
				b = bytes.Clone(behind)
				b[at] ^= byte(x)
				if p, _, kind := Next(b); kind == Whole && bytes.Equal(p, payload) {
					t.Errorf("%d bytes and more, byte %d changed by %d: the same payload", n, at, x)
				}
			}
		}
	}
}

// P3.5: one bit of a frame that is as big as may be.
func TestNextOfChangedBig(t *testing.T) {
	payload := some(api.MaxFrame)
	f := framed(payload)
	for at := 0; at < len(f); at += 8191 {
		f[at] ^= 0x80
		if p, _, kind := Next(f); kind == Whole && bytes.Equal(p, payload) {
			t.Errorf("byte %d changed: the same payload", at)
		}
		f[at] ^= 0x80
	}
	isNext(t, f, payload, len(f), Whole)
}

// P3.6: arguments stay as they are, their spare capacity too.
func TestArgumentsUnchanged(t *testing.T) {
	for _, n := range []int{0, 1, 4, 8, 100} {
		whole := some(n + 100)
		before := bytes.Clone(whole)
		CRC(whole[:n], whole[:n/2])
		Put(whole[:n])
		Put(whole[:n], whole[:n/2])
		Next(whole[:n])
		Scan(whole[:n])
		if !bytes.Equal(whole, before) {
			t.Errorf("the %d bytes or those behind them were changed", n)
		}
	}
	all := slices.Concat(framed(some(5)), framed(some(6)), some(100))
	before := bytes.Clone(all)
	for i := range len(all) + 1 {
		Next(all[:i])
		Scan(all[:i])
	}
	if !bytes.Equal(all, before) {
		t.Error("frames or what is behind them were changed")
	}
	list := [][]byte{[]byte("a"), []byte("b"), []byte("c"), nil}
	CRC(list[:2]...)
	Put(list[:2]...)
	for i, want := range []string{"a", "b", "c", ""} {
		if string(list[i]) != want {
			t.Errorf("part %d became %q", i, list[i])
		}
	}
}

// P3.6: what is changed after a call doesn't count.
func TestArgumentsNotKept(t *testing.T) {
	a, hello := []byte("a"), []byte("hello")
	one, two := put(t, a), put(t, a, hello)
	clear(a)
	clear(hello)
	if !bytes.Equal(one, framed([]byte("a"))) || !bytes.Equal(two, framed([]byte("ahello"))) {
		t.Errorf("frames became %q and %q", one, two)
	}
	b := slices.Concat(one, two)
	payload, _, _ := Next(b)
	payloads, _, _ := Scan(b)
	clear(b)
	if string(payload) != "a" || len(payloads) != 2 || string(payloads[0]) != "a" || string(payloads[1]) != "ahello" {
		t.Errorf("payloads became %q and %q", payload, payloads)
	}
}

// P3.6: what was told is its own memory, spare capacity included.
func TestResultsAreNew(t *testing.T) {
	b := slices.Concat(framed([]byte("a")), framed([]byte("hello")), framed(nil), framed([]byte("b")))
	before := bytes.Clone(b)
	spoil := func(p []byte) {
		clear(p)
		_ = append(p, "spoilt"...)
		clear(p[:cap(p)])
	}
	payload, _, _ := Next(b)
	first, _, _ := Scan(b)
	second, _, _ := Scan(b)
	spoil(payload)
	for i, want := range []string{"a", "hello", "", "b"} {
		if string(first[i]) != want {
			t.Errorf("payload %d became %q", i, first[i])
		}
		spoil(first[i])
	}
	_ = append(first[:0], nil, nil)
	for i, want := range []string{"a", "hello", "", "b"} {
		if string(second[i]) != want {
			t.Errorf("payload %d of the second Scan became %q", i, second[i])
		}
	}
	if !bytes.Equal(b, before) {
		t.Error("payloads are memory of the frames")
	}
	one, two := put(t, []byte("a")), put(t, []byte("a"))
	spoil(one)
	if !bytes.Equal(two, framed([]byte("a"))) || !bytes.Equal(put(t, []byte("a")), framed([]byte("a"))) {
		t.Error("a frame is memory of another")
	}
}

// P3.6: parts may share their memory.
func TestPartsShared(t *testing.T) {
	b := some(100)
	if f := put(t, b, b[50:], b); !bytes.Equal(f, framed(slices.Concat(b, b[50:], b))) {
		t.Error("parts of one memory are not framed as others")
	}
	f := put(t, b)
	if g := put(t, f, f); !bytes.Equal(g, framed(slices.Concat(f, f))) {
		t.Error("frames are not framed as other bytes")
	}
}
