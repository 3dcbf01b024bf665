package disk

import (
	"bytes"
	"fmt"
	"maps"
	"math"
	"slices"
	"strings"
	"testing"

	"parapet/api"
)

// made is an empty disk.
func made(t *testing.T, room int) *Disk {
	t.Helper()
	d, e := New(room)
	if d == nil || e != api.OK {
		t.Fatalf("New(%d) = %v, %d", room, d, e)
	}
	return d
}

// isErr holds an error against what it should be.
func isErr(t *testing.T, what string, got, want api.Errno) {
	t.Helper()
	if got != want {
		t.Errorf("%s tells %d, not %d", what, got, want)
	}
}

// show is all files and their bytes.
func show(d *Disk) string {
	var s []string
	for _, name := range d.Names() {
		b, e := d.Read(name)
		if e != api.OK {
			return fmt.Sprintf("Read(%q) tells %d", name, e)
		}
		s = append(s, name+"="+string(b))
	}
	return strings.Join(s, " ")
}

// isShow holds what stands on a disk against what should.
func isShow(t *testing.T, what string, d *Disk, want string) {
	t.Helper()
	if got := show(d); got != want {
		t.Errorf("%s: %q, not %q", what, got, want)
	}
}

// write appends what has room.
func write(t *testing.T, d *Disk, name, text string) {
	t.Helper()
	isErr(t, "Append to "+name, d.Append(name, []byte(text)), api.OK)
}

// laid is a disk with a file a, of which abc are synced and de are not, a file
// b that is synced, and a file c that isn't.
func laid(t *testing.T) *Disk {
	t.Helper()
	d := made(t, 100)
	write(t, d, "b", "12345")
	write(t, d, "a", "abc")
	isErr(t, "Sync", d.Sync("a", "b"), api.OK)
	write(t, d, "a", "de")
	write(t, d, "c", "xyz")
	return d
}

// P4.1: rooms about the bounds.
func TestNew(t *testing.T) {
	for _, room := range []int{math.MinInt, -2, -1, api.MaxDisk + 1, api.MaxDisk + 2, math.MaxInt} {
		if d, e := New(room); d != nil || e != api.ErrArg {
			t.Errorf("New(%d) = %v, %d", room, d, e)
		}
	}
	for _, room := range []int{0, 1, 2, 1000, api.MaxDisk - 1, api.MaxDisk} {
		d := made(t, room)
		if len(d.Names()) != 0 || d.Ops() != 0 {
			t.Errorf("New(%d) has %q, %d operations", room, d.Names(), d.Ops())
		}
		isErr(t, "Append of more than the room", d.Append("a", make([]byte, room+1)), api.ErrFull)
		isErr(t, "Append of the room", d.Append("a", make([]byte, room)), api.OK)
		isErr(t, "Append of a byte more", d.Append("a", []byte{1}), api.ErrFull)
		isErr(t, "Append of a byte more to another", d.Append("b", []byte{1}), api.ErrFull)
		isErr(t, "Append of nothing", d.Append("b"), api.OK)
	}
}

// operations are one of each kind that a laid disk performs, in an order in
// which each can be.
func operations() []func(d *Disk) api.Errno {
	return []func(d *Disk) api.Errno{
		func(d *Disk) api.Errno { return d.Append("a", []byte("f")) },
		func(d *Disk) api.Errno { return d.Sync("a") },
		func(d *Disk) api.Errno { return d.Rename("a", "z") },
		func(d *Disk) api.Errno { return d.Truncate("b", 2) },
		func(d *Disk) api.Errno { return d.Remove("c") },
	}
}

// refusals are calls of which each is an operation that is refused.
func refusals() map[string]func(d *Disk) api.Errno {
	return map[string]func(d *Disk) api.Errno{
		"Append without a name":     func(d *Disk) api.Errno { return d.Append("", []byte("x")) },
		"Append with a long name":   func(d *Disk) api.Errno { return d.Append(strings.Repeat("n", 101)) },
		"Append without room":       func(d *Disk) api.Errno { return d.Append("a", make([]byte, 200)) },
		"Sync of no file":           func(d *Disk) api.Errno { return d.Sync("a", "q") },
		"Rename of no file":         func(d *Disk) api.Errno { return d.Rename("q", "r") },
		"Rename to no name":         func(d *Disk) api.Errno { return d.Rename("a", "") },
		"Rename to a long name":     func(d *Disk) api.Errno { return d.Rename("a", strings.Repeat("n", 101)) },
		"Truncate of no file":       func(d *Disk) api.Errno { return d.Truncate("q", 0) },
		"Truncate to less":          func(d *Disk) api.Errno { return d.Truncate("a", -1) },
		"Truncate beyond the end":   func(d *Disk) api.Errno { return d.Truncate("a", 6) },
		"Remove of no file":         func(d *Disk) api.Errno { return d.Remove("q") },
		"Remove of an unnamed file": func(d *Disk) api.Errno { return d.Remove("") },
	}
}

// P4.1: each operation counts, whatever it tells; other calls don't.
func TestOps(t *testing.T) {
	d := laid(t)
	want := 5
	for _, do := range operations() {
		isErr(t, "an operation", do(d), api.OK)
		want++
		if d.Ops() != want {
			t.Errorf("%d operations, not %d", d.Ops(), want)
		}
	}
	d = laid(t)
	want = 5
	for what, do := range refusals() {
		if do(d) == api.OK {
			t.Errorf("%s is not refused", what)
		}
		want++
		if d.Ops() != want {
			t.Errorf("%s: %d operations, not %d", what, d.Ops(), want)
		}
	}
	isErr(t, "Sync of nothing", d.Sync(), api.OK)
	isErr(t, "Append of nothing", d.Append("a"), api.OK)
	isErr(t, "Rename to the same", d.Rename("a", "a"), api.OK)
	isErr(t, "Truncate to the length", d.Truncate("a", 5), api.OK)
	d.Cut(0)
	isErr(t, "Append when off", d.Append("a"), api.ErrOff)
	want += 5
	d.Read("a")
	d.Read("q")
	d.Names()
	d.Crash(1)
	d.Copy()
	d.Cut(1)
	if d.Ops() != want {
		t.Errorf("%d operations, not %d", d.Ops(), want)
	}
}

// P4.1: as many operations as Cut lets are performed, and no more.
func TestCut(t *testing.T) {
	for n := -2; n < 8; n++ {
		d, same := laid(t), laid(t)
		d.Cut(n)
		for i, do := range operations() {
			want := api.ErrOff
			if i < n {
				want = do(same)
			}
			isErr(t, fmt.Sprintf("operation %d after Cut(%d)", i, n), do(d), want)
			isShow(t, fmt.Sprintf("after Cut(%d)", n), d, show(same))
			isShow(t, fmt.Sprintf("after Cut(%d) and a crash", n), d.Crash(), show(same.Crash()))
		}
		if d.Ops() != 10 {
			t.Errorf("%d operations after Cut(%d)", d.Ops(), n)
		}
	}
}

// P4.1: refused operations are performed, too, as Cut counts.
func TestCutCountsRefused(t *testing.T) {
	for what, do := range refusals() {
		d := laid(t)
		d.Cut(2)
		if e := do(d); e == api.OK || e == api.ErrOff {
			t.Errorf("%s tells %d", what, e)
		}
		write(t, d, "a", "f")
		isErr(t, "Append after "+what, d.Append("a"), api.ErrOff)
	}
}

// P4.1: very great and very small numbers.
func TestCutFar(t *testing.T) {
	d := laid(t)
	d.Cut(math.MaxInt)
	for range 1000 {
		isErr(t, "Sync", d.Sync("a"), api.OK)
	}
	d.Cut(math.MinInt)
	for range 1000 {
		isErr(t, "Sync", d.Sync("a"), api.ErrOff)
	}
	if d.Ops() != 2005 {
		t.Errorf("%d operations", d.Ops())
	}
}

// P4.1: a later Cut replaces an earlier one.
func TestCutAgain(t *testing.T) {
	d := laid(t)
	isErrs := func(want ...api.Errno) {
		t.Helper()
		for i, e := range want {
			isErr(t, fmt.Sprint("Sync ", i), d.Sync(), e)
		}
	}
	d.Cut(1)
	isErrs(api.OK, api.ErrOff, api.ErrOff)
	d.Cut(2)
	isErrs(api.OK, api.OK, api.ErrOff)
	d.Cut(5)
	isErrs(api.OK)
	d.Cut(1)
	isErrs(api.OK, api.ErrOff)
	d.Cut(1)
	d.Cut(3)
	isErrs(api.OK, api.OK, api.OK, api.ErrOff)
	d.Cut(3)
	d.Cut(-1)
	isErrs(api.ErrOff)
}

// P4.2: a disk that is off tells so ahead of all else, and does nothing.
func TestOff(t *testing.T) {
	d := laid(t)
	d.Cut(0)
	before, after := show(d), show(d.Crash(1, 1))
	for what, do := range refusals() {
		isErr(t, what, do(d), api.ErrOff)
	}
	for i, do := range operations() {
		isErr(t, fmt.Sprint("operation ", i), do(d), api.ErrOff)
	}
	isErr(t, "Sync of nothing", d.Sync(), api.ErrOff)
	isErr(t, "Rename to the same", d.Rename("a", "a"), api.ErrOff)
	isShow(t, "off", d, before)
	isShow(t, "off, after a crash", d.Crash(1, 1), after)
}

// P4.2: parts stand one behind the other, behind what was there.
func TestAppend(t *testing.T) {
	d := made(t, 100)
	isErr(t, "Append of parts", d.Append("a", []byte("ab"), nil, []byte("c"), []byte{}), api.OK)
	isShow(t, "parts", d, "a=abc")
	isErr(t, "Append of more", d.Append("a", []byte("d")), api.OK)
	isErr(t, "Append of another", d.Append("b", []byte("1")), api.OK)
	isShow(t, "two files", d, "a=abcd b=1")
	isErr(t, "Append of nothing", d.Append("a"), api.OK)
	isErr(t, "Append of nothing to a new one", d.Append("c"), api.OK)
	isErr(t, "Append of empty parts to a new one", d.Append("d", nil, []byte{}), api.OK)
	isShow(t, "nothing", d, "a=abcd b=1 c= d=")
	isShow(t, "not synced", d.Crash(), "a= b= c= d=")
	all := make([]byte, 256)
	for i := range all {
		all[i] = byte(i)
	}
	d = made(t, 1000)
	isErr(t, "Append of every byte", d.Append("\x00/..\n", all[:100], all[100:]), api.OK)
	if b, e := d.Read("\x00/..\n"); !bytes.Equal(b, all) || e != api.OK {
		t.Errorf("every byte is read as % x, %d", b, e)
	}
}

// P4.2: names by their lengths, which are in bytes.
func TestAppendNames(t *testing.T) {
	for name, want := range map[string]api.Errno{
		"":                              api.ErrArg,
		"a":                             api.OK,
		" ":                             api.OK,
		"\x00":                          api.OK,
		strings.Repeat("n", 99):         api.OK,
		strings.Repeat("n", 100):        api.OK,
		strings.Repeat("n", 101):        api.ErrArg,
		strings.Repeat("\u00e9", 50):    api.OK,
		strings.Repeat("\u00e9", 51):    api.ErrArg,
		strings.Repeat("n", 5000):       api.ErrArg,
		strings.Repeat("\xff", 100):     api.OK,
		strings.Repeat("\xff\xfe", 100): api.ErrArg,
	} {
		d := made(t, 10)
		isErr(t, fmt.Sprintf("Append to %q", name), d.Append(name, []byte("x")), want)
		tooMuch := api.ErrFull
		if want == api.ErrArg {
			tooMuch = api.ErrArg
		}
		isErr(t, fmt.Sprintf("Append of too much to %q", name), d.Append(name, make([]byte, 11)), tooMuch)
		if has := len(d.Names()) == 1; has != (want == api.OK) {
			t.Errorf("names are %q", d.Names())
		}
	}
}

// P4.2: as many bytes as there is room for, over all files, and one more.
func TestAppendRoom(t *testing.T) {
	d := made(t, 10)
	write(t, d, "a", "abcde")
	for _, parts := range [][][]byte{
		{[]byte("123456")},
		{[]byte("12345"), []byte("6")},
		{[]byte("1"), nil, []byte("23456")},
		{make([]byte, 1000)},
		{make([]byte, 6), make([]byte, 6)},
	} {
		for _, name := range []string{"a", "b"} {
			isErr(t, "Append without room", d.Append(name, parts...), api.ErrFull)
			isShow(t, "after an Append without room", d, "a=abcde")
		}
	}
	isErr(t, "Append of the rest", d.Append("b", []byte("123"), []byte("45")), api.OK)
	isErr(t, "Append of one more", d.Append("b", []byte("6")), api.ErrFull)
	isErr(t, "Append of one more to a new one", d.Append("c", []byte("6")), api.ErrFull)
	isErr(t, "Append of nothing", d.Append("c", nil), api.OK)
	isShow(t, "full", d, "a=abcde b=12345 c=")
}

// P4.2: room that is given back can be taken again.
func TestAppendRoomAgain(t *testing.T) {
	for what, do := range map[string]func(d *Disk) api.Errno{
		"Truncate":                  func(d *Disk) api.Errno { return d.Truncate("a", 2) },
		"Remove":                    func(d *Disk) api.Errno { return d.Remove("b") },
		"Rename onto one":           func(d *Disk) api.Errno { return d.Rename("a", "b") },
		"Rename onto one, the rest": func(d *Disk) api.Errno { return d.Rename("b", "a") },
	} {
		d := made(t, 8)
		write(t, d, "a", "abcde")
		write(t, d, "b", "123")
		isErr(t, "Append to a full disk", d.Append("z", []byte("!")), api.ErrFull)
		isErr(t, what, do(d), api.OK)
		used := 0
		for _, name := range d.Names() {
			b, _ := d.Read(name)
			used += len(b)
		}
		isErr(t, "Append of too much after "+what, d.Append("z", make([]byte, 9-used)), api.ErrFull)
		isErr(t, "Append of the rest after "+what, d.Append("z", make([]byte, 8-used)), api.OK)
	}
}

// P4.2: as many files as there may be, and one more.
func TestAppendFiles(t *testing.T) {
	d := made(t, 10)
	for i := range api.MaxFiles {
		isErr(t, fmt.Sprint("file ", i), d.Append(fmt.Sprintf("f%02d", i)), api.OK)
	}
	isErr(t, "one file more", d.Append("g"), api.ErrFull)
	isErr(t, "one file more, with bytes", d.Append("g", []byte("x")), api.ErrFull)
	isErr(t, "no name", d.Append(""), api.ErrArg)
	isErr(t, "a file that is there", d.Append("f07", []byte("x")), api.OK)
	isErr(t, "a file by another name", d.Rename("f63", "g"), api.OK)
	isErr(t, "its old name", d.Append("f63"), api.ErrFull)
	isErr(t, "Remove", d.Remove("f00"), api.OK)
	isErr(t, "one in its place", d.Append("f63"), api.OK)
	isErr(t, "one more again", d.Append("f00"), api.ErrFull)
	isErr(t, "Rename onto one", d.Rename("f01", "f02"), api.OK)
	isErr(t, "one in its place", d.Append("f00"), api.OK)
	isErr(t, "one more again", d.Append("f01"), api.ErrFull)
	if n := len(d.Names()); n != api.MaxFiles {
		t.Errorf("%d files", n)
	}
	if n := len(d.Crash().Names()); n != api.MaxFiles {
		t.Errorf("%d files after a crash", n)
	}
}

// P4.2: all bytes of all that are named last, and of no other.
func TestSync(t *testing.T) {
	for _, c := range []struct {
		names string
		want  api.Errno
		after string
	}{
		{"", api.OK, "a=abc b=12345 c="},
		{"a", api.OK, "a=abcde b=12345 c="},
		{"b", api.OK, "a=abc b=12345 c="},
		{"c", api.OK, "a=abc b=12345 c=xyz"},
		{"a c", api.OK, "a=abcde b=12345 c=xyz"},
		{"c b a", api.OK, "a=abcde b=12345 c=xyz"},
		{"c c c", api.OK, "a=abc b=12345 c=xyz"},
		{"q", api.ErrNone, "a=abc b=12345 c="},
		{"q a", api.ErrNone, "a=abc b=12345 c="},
		{"a q", api.ErrNone, "a=abc b=12345 c="},
		{"a c q b", api.ErrNone, "a=abc b=12345 c="},
		{"a A c", api.ErrNone, "a=abc b=12345 c="},
		{"a " + strings.Repeat("n", 101), api.ErrNone, "a=abc b=12345 c="},
	} {
		d := laid(t)
		isErr(t, "Sync of "+c.names, d.Sync(strings.Fields(c.names)...), c.want)
		isShow(t, "Sync of "+c.names, d, "a=abcde b=12345 c=xyz")
		isShow(t, "a crash after Sync of "+c.names, d.Crash(), c.after)
	}
	d := laid(t)
	isErr(t, "Sync of no name", d.Sync("a", ""), api.ErrNone)
	isShow(t, "a crash", d.Crash(), "a=abc b=12345 c=")
	isErr(t, "Sync of nothing on an empty disk", made(t, 1).Sync(), api.OK)
}

// P4.2: a file by another name has the bytes that it had, synced or not.
func TestRename(t *testing.T) {
	long := strings.Repeat("n", 100)
	for _, c := range []struct {
		from, to    string
		want        api.Errno
		show, after string
	}{
		{"a", "z", api.OK, "b=12345 c=xyz z=abcde", "b=12345 c= z=abc"},
		{"a", long, api.OK, "b=12345 c=xyz " + long + "=abcde", "b=12345 c= " + long + "=abc"},
		{"a", "b", api.OK, "b=abcde c=xyz", "b=abc c="},
		{"b", "a", api.OK, "a=12345 c=xyz", "a=12345 c="},
		{"b", "c", api.OK, "a=abcde c=12345", "a=abc c=12345"},
		{"c", "b", api.OK, "a=abcde b=xyz", "a=abc b="},
		{"a", "a", api.OK, "a=abcde b=12345 c=xyz", "a=abc b=12345 c="},
		{"a", "", api.ErrArg, "", ""},
		{"a", long + "n", api.ErrArg, "", ""},
		{"q", "z", api.ErrNone, "", ""},
		{"q", "a", api.ErrNone, "", ""},
		{"q", "q", api.ErrNone, "", ""},
		{"q", "", api.ErrNone, "", ""},
		{"q", long + "n", api.ErrNone, "", ""},
		{"", "", api.ErrNone, "", ""},
		{"", "z", api.ErrNone, "", ""},
		{"", "a", api.ErrNone, "", ""},
		{long + "n", long + "n", api.ErrNone, "", ""},
	} {
		d := laid(t)
		what := fmt.Sprintf("Rename(%q, %q)", c.from, c.to)
		isErr(t, what, d.Rename(c.from, c.to), c.want)
		if c.want != api.OK {
			c.show, c.after = "a=abcde b=12345 c=xyz", "a=abc b=12345 c="
		}
		isShow(t, what, d, c.show)
		isShow(t, what+" and a crash", d.Crash(), c.after)
	}
}

// P4.2: a file and its old name have nothing to do with each other.
func TestRenameAndAppend(t *testing.T) {
	d := laid(t)
	isErr(t, "Rename", d.Rename("a", "z"), api.OK)
	write(t, d, "a", "new")
	write(t, d, "z", "f")
	isShow(t, "both", d, "a=new b=12345 c=xyz z=abcdef")
	isShow(t, "both after a crash", d.Crash(1, 0, 2), "a=n b=12345 c= z=abcde")
}

// P4.2: sizes of a file of 5 bytes, of which 3 are synced.
func TestTruncate(t *testing.T) {
	for _, c := range []struct {
		name string
		size int
		want api.Errno
		show string
		all  string // what a crash may leave, the least and the most
	}{
		{"a", 0, api.OK, "", "-"},
		{"a", 1, api.OK, "a", "a-a"},
		{"a", 3, api.OK, "abc", "abc-abc"},
		{"a", 4, api.OK, "abcd", "abc-abcd"},
		{"a", 5, api.OK, "abcde", "abc-abcde"},
		{"a", 6, api.ErrArg, "abcde", "abc-abcde"},
		{"a", -1, api.ErrArg, "abcde", "abc-abcde"},
		{"a", math.MaxInt, api.ErrArg, "abcde", "abc-abcde"},
		{"a", math.MinInt, api.ErrArg, "abcde", "abc-abcde"},
		{"q", 0, api.ErrNone, "abcde", "abc-abcde"},
		{"q", -1, api.ErrNone, "abcde", "abc-abcde"},
		{"q", 6, api.ErrNone, "abcde", "abc-abcde"},
		{"", 0, api.ErrNone, "abcde", "abc-abcde"},
	} {
		d := laid(t)
		what := fmt.Sprintf("Truncate(%q, %d)", c.name, c.size)
		isErr(t, what, d.Truncate(c.name, c.size), c.want)
		isShow(t, what, d, "a="+c.show+" b=12345 c=xyz")
		none, most := d.Crash(), d.Crash(max(0, len(c.show)-3))
		least, _ := none.Read("a")
		greatest, _ := most.Read("a")
		if got := string(least) + "-" + string(greatest); got != c.all {
			t.Errorf("%s: a crash leaves %s, not %s", what, got, c.all)
		}
	}
}

// P4.2: what is appended behind a cut file stands there, and isn't synced.
func TestTruncateAndAppend(t *testing.T) {
	d := laid(t)
	isErr(t, "Truncate", d.Truncate("a", 2), api.OK)
	write(t, d, "a", "QRS")
	isShow(t, "appended", d, "a=abQRS b=12345 c=xyz")
	isShow(t, "crashed", d.Crash(), "a=ab b=12345 c=")
	isShow(t, "crashed, with a pick", d.Crash(2), "a=abQR b=12345 c=")
	isErr(t, "Truncate of an empty file", made(t, 1).Truncate("a", 0), api.ErrNone)
	isErr(t, "Append of nothing", d.Append("e"), api.OK)
	isErr(t, "Truncate to nothing", d.Truncate("e", 0), api.OK)
	isErr(t, "Truncate of nothing", d.Truncate("e", 1), api.ErrArg)
}

// P4.2: a file that is removed is gone, and one of its name is another.
func TestRemove(t *testing.T) {
	d := laid(t)
	isErr(t, "Remove", d.Remove("a"), api.OK)
	isShow(t, "removed", d, "b=12345 c=xyz")
	isShow(t, "removed and crashed", d.Crash(), "b=12345 c=")
	isErr(t, "a second Remove", d.Remove("a"), api.ErrNone)
	isErr(t, "Sync of it", d.Sync("a"), api.ErrNone)
	isErr(t, "Truncate of it", d.Truncate("a", 0), api.ErrNone)
	isErr(t, "Rename of it", d.Rename("a", "b"), api.ErrNone)
	isErr(t, "Remove of no name", d.Remove(""), api.ErrNone)
	write(t, d, "a", "new")
	isShow(t, "made again", d, "a=new b=12345 c=xyz")
	isShow(t, "made again and crashed", d.Crash(), "a= b=12345 c=")
}

// P4.3: bytes of files that are there, and none of others.
func TestRead(t *testing.T) {
	d := laid(t)
	d.Append("e")
	for name, want := range map[string]string{"a": "abcde", "b": "12345", "c": "xyz", "e": ""} {
		if b, e := d.Read(name); string(b) != want || e != api.OK {
			t.Errorf("Read(%q) = %q, %d", name, b, e)
		}
	}
	for _, name := range []string{"", "q", "A", "a ", "ab", strings.Repeat("n", 101)} {
		if b, e := d.Read(name); b != nil || e != api.ErrNone {
			t.Errorf("Read(%q) = %q, %d", name, b, e)
		}
	}
	d.Cut(0)
	if b, e := d.Read("a"); string(b) != "abcde" || e != api.OK {
		t.Errorf("Read of a disk that is off = %q, %d", b, e)
	}
}

// P4.3: names by their bytes.
func TestNames(t *testing.T) {
	d := made(t, 10)
	if names := d.Names(); len(names) != 0 {
		t.Errorf("an empty disk has %q", names)
	}
	want := []string{"\x00", " ", "0", "10", "2", "B", "a", "a\x00", "aB", "a\xff", "aa", "b", "\u00e9", "\xff", "\xff\x00"}
	slices.Sort(want)
	for i := range want {
		isErr(t, "Append", d.Append(want[i*7%len(want)]), api.OK)
	}
	d.Append(want[3], []byte("more"))
	for range 20 {
		if names := d.Names(); !slices.Equal(names, want) {
			t.Fatalf("names are %q, not %q", names, want)
		}
	}
	d.Cut(-1)
	if names := d.Names(); !slices.Equal(names, want) {
		t.Errorf("names of a disk that is off are %q, not %q", names, want)
	}
	if names := d.Crash().Names(); !slices.Equal(names, want) {
		t.Errorf("names after a crash are %q, not %q", names, want)
	}
}

// P4.4: picks, one for each file that may lose bytes.
func TestCrash(t *testing.T) {
	for _, c := range []struct {
		picks []int
		want  string
	}{
		{nil, "a=abc b=12345 c="},
		{[]int{}, "a=abc b=12345 c="},
		{[]int{0}, "a=abc b=12345 c="},
		{[]int{1}, "a=abcd b=12345 c="},
		{[]int{2}, "a=abcde b=12345 c="},
		{[]int{3}, "a=abc b=12345 c="},
		{[]int{4}, "a=abcd b=12345 c="},
		{[]int{-1}, "a=abcde b=12345 c="},
		{[]int{-2}, "a=abcd b=12345 c="},
		{[]int{-3}, "a=abc b=12345 c="},
		{[]int{-4}, "a=abcde b=12345 c="},
		{[]int{math.MaxInt}, "a=abcd b=12345 c="},
		{[]int{math.MinInt}, "a=abcd b=12345 c="},
		{[]int{0, 1}, "a=abc b=12345 c=x"},
		{[]int{1, 3}, "a=abcd b=12345 c=xyz"},
		{[]int{2, 4}, "a=abcde b=12345 c="},
		{[]int{2, 6}, "a=abcde b=12345 c=xy"},
		{[]int{-3, -1}, "a=abc b=12345 c=xyz"},
		{[]int{1, 2, 9, 9, -7}, "a=abcd b=12345 c=xy"},
	} {
		d := laid(t)
		isShow(t, fmt.Sprintf("Crash(%d)", c.picks), d.Crash(c.picks...), c.want)
		isShow(t, fmt.Sprintf("before Crash(%d)", c.picks), d, "a=abcde b=12345 c=xyz")
	}
}

// P4.4: the picks go by the names' order, not by that in which files were made,
// and a file without bytes that could be lost takes none.
func TestCrashOrder(t *testing.T) {
	d := made(t, 100)
	for _, name := range []string{"m", "z", "B", "a", "aa", "\xff", "0"} {
		write(t, d, name, "12345")
	}
	isErr(t, "Sync", d.Sync("m"), api.OK)
	isErr(t, "Append of nothing", d.Append("e"), api.OK)
	for range 20 {
		isShow(t, "picked", d.Crash(5, 4, 3, 2, 1, 0), "0=12345 B=1234 a=123 aa=12 e= m=12345 z=1 \xff=")
	}
	isShow(t, "picked from none on", d.Crash(0, 1, 2, 3, 4, 5), "0= B=1 a=12 aa=123 e= m=12345 z=1234 \xff=12345")
}

// P4.4: a disk after a crash has the same room, is on, and counts from 0; what
// is left there is synced.
func TestCrashIsNew(t *testing.T) {
	d := made(t, 10)
	write(t, d, "a", "abc")
	write(t, d, "b", "123")
	d.Cut(0)
	isErr(t, "Sync when off", d.Sync("a"), api.ErrOff)
	after := d.Crash(2, 1)
	if after.Ops() != 0 || d.Ops() != 3 {
		t.Errorf("%d operations after the crash, %d ahead of it", after.Ops(), d.Ops())
	}
	isShow(t, "after", after, "a=ab b=1")
	isShow(t, "after two crashes", after.Crash(), "a=ab b=1")
	isShow(t, "after two crashes, with picks", after.Crash(1, 1), "a=ab b=1")
	isErr(t, "Append of too much", after.Append("a", make([]byte, 8)), api.ErrFull)
	isErr(t, "Append of the rest", after.Append("a", []byte("defghij")), api.OK)
	isErr(t, "Append of one more", after.Append("b", []byte("!")), api.ErrFull)
	isShow(t, "after a crash again", after.Crash(3), "a=abdef b=1")
	if after.Ops() != 3 {
		t.Errorf("%d operations after the crash", after.Ops())
	}
	isErr(t, "Sync ahead of the crash", d.Sync("a"), api.ErrOff)
	isShow(t, "ahead of the crash", d, "a=abc b=123")
	isShow(t, "an empty disk", made(t, 5).Crash(1, 2), "")
}

// P4.5: a copy has all that the disk has.
func TestCopy(t *testing.T) {
	d := made(t, 12)
	write(t, d, "a", "abc")
	d.Sync("a")
	write(t, d, "a", "de")
	write(t, d, "b", "123")
	d.Cut(2)
	d.Sync()
	for range 2 {
		k := d.Copy()
		if k.Ops() != d.Ops() {
			t.Errorf("%d operations, not %d", k.Ops(), d.Ops())
		}
		isShow(t, "copied", k, "a=abcde b=123")
		isShow(t, "copied and crashed", k.Crash(1, 2), "a=abcd b=12")
		isErr(t, "Append of too much", k.Append("a", make([]byte, 5)), api.ErrFull)
		isErr(t, "Append of the rest", k.Append("a", make([]byte, 4)), api.ErrOff)
	}
	d.Cut(-1)
	isErr(t, "Sync of a copy of one that is off", d.Copy().Sync(), api.ErrOff)
	d = laid(t)
	d.Cut(3)
	d = d.Copy().Copy()
	for _, want := range []api.Errno{api.OK, api.OK, api.OK, api.ErrOff} {
		isErr(t, "Sync of a copy", d.Sync("a"), want)
	}
	if d.Ops() != 9 {
		t.Errorf("%d operations of a copy", d.Ops())
	}
}

// P4.5: what is done to a copy isn't done to the disk, and the other way round.
func TestCopyApart(t *testing.T) {
	for _, apart := range []func(d *Disk) *Disk{
		func(d *Disk) *Disk { return d.Copy() },
		func(d *Disk) *Disk { return d.Crash(2, 3) },
	} {
		for i, do := range operations() {
			d := laid(t)
			k := apart(d)
			one, two := show(d)+" | "+show(d.Crash()), show(k)+" | "+show(k.Crash())
			ops := d.Ops()
			isErr(t, fmt.Sprint("operation ", i), do(k), api.OK)
			if got := show(d) + " | " + show(d.Crash()); got != one || d.Ops() != ops {
				t.Errorf("operation %d on the other makes the disk %s, %d operations", i, got, d.Ops())
			}
			k = apart(d)
			ops = k.Ops()
			isErr(t, fmt.Sprint("operation ", i), do(d), api.OK)
			d.Cut(0)
			if got := show(k) + " | " + show(k.Crash()); got != two || k.Ops() != ops {
				t.Errorf("operation %d on the disk makes the other %s, %d operations", i, got, k.Ops())
			}
			isErr(t, "Sync of the other", k.Sync(), api.OK)
		}
	}
}

// P4.5: appends to both, which must not meet in spare memory.
func TestCopyAppends(t *testing.T) {
	for n := range 70 {
		d := made(t, 1000)
		write(t, d, "a", strings.Repeat("x", n))
		write(t, d, "a", "ab")
		isErr(t, "Truncate", d.Truncate("a", n+1), api.OK)
		k, crashed := d.Copy(), d.Crash(n+1)
		write(t, k, "a", "K")
		write(t, crashed, "a", "C")
		write(t, d, "a", "D")
		all := "a=" + strings.Repeat("x", n) + "a"
		isShow(t, "the disk", d, all+"D")
		isShow(t, "the copy", k, all+"K")
		isShow(t, "the crashed one", crashed, all+"C")
	}
}

// P4.5: a zero disk has no room, and is on.
func TestZero(t *testing.T) {
	isZero := func(what string, d *Disk) {
		t.Helper()
		if d == nil {
			t.Fatalf("%s: nil", what)
		}
		if names := d.Names(); len(names) != 0 || d.Ops() != 0 {
			t.Errorf("%s has %q, %d operations", what, names, d.Ops())
		}
		if b, e := d.Read("a"); b != nil || e != api.ErrNone {
			t.Errorf("%s: Read tells %q, %d", what, b, e)
		}
		isErr(t, what+": Sync", d.Sync("a"), api.ErrNone)
		isErr(t, what+": Sync of nothing", d.Sync(), api.OK)
		isErr(t, what+": Rename", d.Rename("a", "b"), api.ErrNone)
		isErr(t, what+": Truncate", d.Truncate("a", 0), api.ErrNone)
		isErr(t, what+": Remove", d.Remove("a"), api.ErrNone)
		isErr(t, what+": Append to no name", d.Append("", []byte("x")), api.ErrArg)
		isErr(t, what+": Append", d.Append("a", []byte("x")), api.ErrFull)
		isErr(t, what+": Append of nothing", d.Append("a", nil), api.OK)
		isShow(t, what, d, "a=")
		if d.Ops() != 8 {
			t.Errorf("%s: %d operations", what, d.Ops())
		}
	}
	var zero Disk
	isZero("the zero Disk", &zero)
	isZero("a Crash of it", new(Disk).Crash(1))
	isZero("a Copy of it", new(Disk).Copy())
	isZero("a Disk without room", made(t, 0))
	var none *Disk
	isZero("a Crash of nil", none.Crash())
	isZero("a Crash of nil, with picks", none.Crash(1, 2))
	isZero("a Copy of nil", none.Copy())
	var off Disk
	off.Cut(0)
	isErr(t, "a zero Disk that is off: Append", off.Append(""), api.ErrOff)
	isErr(t, "a zero Disk that is off: Sync", off.Sync(), api.ErrOff)
}

// P4.5: a nil disk tells the same, whatever is asked of it.
func TestNil(t *testing.T) {
	var d *Disk
	for range 2 {
		isErr(t, "Append", d.Append("a"), api.ErrFull)
		isErr(t, "Append of bytes", d.Append("a", []byte("x")), api.ErrFull)
		isErr(t, "Append to no name", d.Append("", nil), api.ErrFull)
		isErr(t, "Sync", d.Sync("a"), api.ErrNone)
		isErr(t, "Sync of nothing", d.Sync(), api.ErrNone)
		isErr(t, "Rename", d.Rename("a", "b"), api.ErrNone)
		isErr(t, "Rename to the same", d.Rename("a", "a"), api.ErrNone)
		isErr(t, "Rename to no name", d.Rename("a", ""), api.ErrNone)
		isErr(t, "Truncate", d.Truncate("a", 0), api.ErrNone)
		isErr(t, "Truncate to less", d.Truncate("a", -1), api.ErrNone)
		isErr(t, "Remove", d.Remove("a"), api.ErrNone)
		if b, e := d.Read("a"); b != nil || e != api.ErrNone {
			t.Errorf("Read tells %q, %d", b, e)
		}
		if len(d.Names()) != 0 || d.Ops() != 0 {
			t.Errorf("%q, %d operations", d.Names(), d.Ops())
		}
		d.Cut(0)
	}
}

// P4.6: whatever is picked, what is synced survives, and a prefix of the rest.
func TestSurvives(t *testing.T) {
	d := laid(t)
	for i := -20; i < 20; i++ {
		for j := -20; j < 20; j++ {
			after := d.Crash(i, j)
			a, _ := after.Read("a")
			b, _ := after.Read("b")
			c, _ := after.Read("c")
			if !strings.HasPrefix(string(a), "abc") || !strings.HasPrefix("abcde", string(a)) ||
				string(b) != "12345" || !strings.HasPrefix("xyz", string(c)) {
				t.Errorf("Crash(%d, %d) leaves %s", i, j, show(after))
			}
		}
	}
}

// P4.6: what is handed in is neither changed nor kept.
func TestArguments(t *testing.T) {
	d := made(t, 100)
	b := []byte("abcdefgh")
	parts := [][]byte{b[:2], b[2:3], b[5:6]}
	isErr(t, "Append", d.Append("a", parts[:2]...), api.OK)
	isErr(t, "Append", d.Append("a", b[3:4]), api.OK)
	if string(b) != "abcdefgh" || string(parts[2]) != "f" {
		t.Errorf("parts became %q, %q", b, parts)
	}
	clear(b)
	clear(parts)
	isShow(t, "after the parts were cleared", d, "a=abcd")
	write(t, d, "b", "12")
	names := []string{"a", "b", "q"}
	isErr(t, "Sync", d.Sync(names[:2]...), api.OK)
	if !slices.Equal(names, []string{"a", "b", "q"}) {
		t.Errorf("names became %q", names)
	}
	clear(names)
	write(t, d, "a", "ef")
	write(t, d, "b", "34")
	picks := []int{1, 2, 7}
	after := d.Crash(picks[:2]...)
	if !slices.Equal(picks, []int{1, 2, 7}) {
		t.Errorf("picks became %d", picks)
	}
	clear(picks)
	isShow(t, "after the picks were cleared", after, "a=abcde b=1234")
}

// P4.6: a file's own bytes may be appended to it.
func TestAppendOfRead(t *testing.T) {
	d := made(t, 1000)
	write(t, d, "a", "ab")
	for range 4 {
		b, _ := d.Read("a")
		isErr(t, "Append", d.Append("a", b, b[1:], b[:1]), api.OK)
	}
	b, _ := d.Read("a")
	want := "ab"
	for range 4 {
		want += want + want[1:] + want[:1]
	}
	if string(b) != want {
		t.Errorf("%q, not %q", b, want)
	}
}

// P4.6: what is told is new memory, spare capacity included.
func TestResultsAreNew(t *testing.T) {
	d := laid(t)
	all := "a=abcde b=12345 c=xyz"
	k, after := d.Copy(), d.Crash(2, 3)
	for _, disk := range []*Disk{d, k, after} {
		b, _ := disk.Read("a")
		clear(b)
		_ = append(b, "spoilt"...)
		clear(b[:cap(b)])
		names := disk.Names()
		_ = append(names, "spoilt")
		clear(names)
		for _, other := range []*Disk{d, k, after} {
			isShow(t, "after results were cleared", other, all)
		}
	}
	b, _ := d.Read("a")
	again, _ := d.Read("a")
	clear(again)
	names := d.Names()
	clear(d.Names())
	write(t, d, "a", "f")
	d.Truncate("a", 1)
	write(t, d, "a", "QRSTUV")
	d.Remove("b")
	if string(b) != "abcde" || !slices.Equal(names, []string{"a", "b", "c"}) {
		t.Errorf("what was read became %q, %q", b, names)
	}
}

// model is a disk as simple as can be: a file is its synced bytes and the rest.
type model struct {
	room, ops, left int // left: how many operations more; 1 << 30 unless cut
	files           map[string][2]string
}

// do performs an operation by the words of the chapter.
func (m *model) do(kind int, name, to string, size int, parts [][]byte) api.Errno {
	m.ops++
	if m.left <= 0 {
		return api.ErrOff
	}
	m.left--
	f, there := m.files[name]
	other, toThere := m.files[to]
	text := string(bytes.Join(parts, nil))
	switch {
	case kind == 0 && (name == "" || len(name) > 100):
		return api.ErrArg
	case kind == 0 && (!there && len(m.files) == 64 || m.used()+len(text) > m.room):
		return api.ErrFull
	case kind == 0:
		m.files[name] = [2]string{f[0], f[1] + text}
	case kind == 1 && !toThere:
		return api.ErrNone
	case kind == 1 && there:
		m.files[name] = [2]string{f[0] + f[1], ""}
		m.files[to] = [2]string{other[0] + other[1], ""}
	case !there:
		return api.ErrNone
	case kind == 2 && (to == "" || len(to) > 100):
		return api.ErrArg
	case kind == 2:
		delete(m.files, name)
		m.files[to] = f
	case kind == 3 && (size < 0 || size > len(f[0]+f[1])):
		return api.ErrArg
	case kind == 3:
		all := (f[0] + f[1])[:size]
		cut := min(size, len(f[0]))
		m.files[name] = [2]string{all[:cut], all[cut:]}
	default:
		delete(m.files, name)
	}
	return api.OK
}

func (m *model) used() int {
	n := 0
	for _, f := range m.files {
		n += len(f[0]) + len(f[1])
	}
	return n
}

// crash is what picks leave.
func (m *model) crash(picks []int) *model {
	after := &model{m.room, 0, 1 << 30, map[string][2]string{}}
	for _, name := range slices.Sorted(maps.Keys(m.files)) {
		f := m.files[name]
		k := 0
		if f[1] != "" && len(picks) > 0 {
			n := len(f[1]) + 1
			k = (picks[0]%n + n) % n
			picks = picks[1:]
		}
		after.files[name] = [2]string{f[0] + f[1][:k], ""}
	}
	return after
}

func (m *model) show() string {
	var s []string
	for _, name := range slices.Sorted(maps.Keys(m.files)) {
		s = append(s, name+"="+m.files[name][0]+m.files[name][1])
	}
	return strings.Join(s, " ")
}

// P4.1 to P4.5: long rows of operations, cuts, crashes and copies, held against
// the model.
func TestAgainstModel(t *testing.T) {
	seed := uint32(1)
	next := func(n int) int {
		seed = 1664525*seed + 1013904223
		return int(seed>>8) % n
	}
	names := []string{"a", "b", "c", "dd", "e", "", strings.Repeat("n", 100), strings.Repeat("n", 101)}
	for run := range 300 {
		d := made(t, run)
		m := &model{run, 0, 1 << 30, map[string][2]string{}}
		for step := range 100 {
			kind, name, to, size := next(9), names[next(len(names))], names[next(len(names))], next(14)-2
			parts := [][]byte{[]byte("0123456789"[:next(10)]), nil, []byte("abcdef"[:next(6)])}
			picks := []int{next(100) - 50, next(100) - 50, next(100) - 50}[:next(4)]
			var got, want api.Errno
			switch kind {
			case 0, 5:
				got, want = d.Append(name, parts...), m.do(0, name, to, size, parts)
			case 1:
				got, want = d.Sync(name, to), m.do(1, name, to, size, parts)
			case 2:
				got, want = d.Rename(name, to), m.do(2, name, to, size, parts)
			case 3:
				got, want = d.Truncate(name, size), m.do(3, name, to, size, parts)
			case 4:
				got, want = d.Remove(name), m.do(4, name, to, size, parts)
			case 6:
				if size > 9 {
					d.Cut(size * 3)
					m.left = size * 3
				}
			case 7:
				d = d.Copy()
			case 8:
				d, m = d.Crash(picks...), m.crash(picks)
			}
			if got != want || show(d) != m.show() || d.Ops() != m.ops || show(d.Crash(picks...)) != m.crash(picks).show() {
				t.Fatalf("run %d, step %d, kind %d, %q, %q, %d: %d, %q, %d operations; not %d, %q, %d",
					run, step, kind, name, to, size, got, show(d), d.Ops(), want, m.show(), m.ops)
			}
		}
	}
}
