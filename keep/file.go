package keep

import (
	"bytes"
	"slices"

	"parapet/api"
	"parapet/disk"
	"parapet/frame"
)

const (
	// Behind the prefix. They are equally long, so that no two prefixes lead to
	// one name.
	fileName  = "log"
	spareName = "new"

	// A frame's length, and all ahead of its payload: see chapter 3.
	lengthSize = 4
	headSize   = 8

	// A file is worn that has more than so many times the bytes that it needs,
	// and this many more.
	wornTimes = 2
	wornMore  = 500
)

// file is a row of changes on a disk. A spare file takes its place when it is
// replaced; it is there only meanwhile.
type file struct {
	disk  *disk.Disk
	name  string
	spare string
	size  int
	off   bool
}

// on tells whether there is a disk whose power isn't known to be off.
func (f *file) on() bool { return f.disk != nil && !f.off }

// worn tells whether the file had better be replaced than made longer: it would
// hold too much that is over, and there may be one file more on the disk.
func (f *file) worn(more, live int) bool {
	return f.size+more > wornTimes*live+wornMore && len(f.disk.Names()) < api.MaxFiles
}

// add makes the file longer.
func (f *file) add(frames ...[]byte) api.Errno {
	e := f.write(f.name, frames)
	if e == api.OK {
		f.size += length(frames)
	}
	return e
}

// replace puts one that has nothing but the frames in the file's place.
func (f *file) replace(frames ...[]byte) api.Errno {
	e := f.write(f.spare, frames)
	if e != api.OK {
		return e
	}
	e = f.note(f.disk.Rename(f.spare, f.name))
	if e == api.OK {
		f.size = length(frames)
	}
	return e
}

// write appends frames to a file, so that they last.
func (f *file) write(name string, frames [][]byte) api.Errno {
	e := f.disk.Append(name, frames...)
	if e == api.OK {
		e = f.disk.Sync(name)
	}
	return f.note(e)
}

// note keeps in mind that the power is off.
func (f *file) note(e api.Errno) api.Errno {
	f.off = e == api.ErrOff
	return e
}

// damage is what a crash left to be mended.
type damage struct {
	absent bool // there is no file yet
	spared bool // there is a spare file
	torn   bool // the file has bytes behind its size
}

// find is what stands on a disk, unless it can't have been left by a crash.
func find(d *disk.Disk, prefix string) (s state, f file, left damage, ok bool) {
	f = file{disk: d, name: prefix + fileName, spare: prefix + spareName}
	b, absent := d.Read(f.name)
	spare, unspared := d.Read(f.spare)
	left.absent = absent != api.OK
	left.spared = unspared == api.OK
	if left.spared && (left.absent || !sparable(spare)) {
		return state{}, file{}, damage{}, false
	}
	s, f.size, ok = load(b)
	left.torn = f.size < len(b)
	return s, f, left, ok
}

// mend makes good what a crash left, so that it lasts.
func (f *file) mend(left damage) api.Errno {
	e := api.OK
	if left.absent { // at once, for later a call must not fail for want of a file
		e = f.disk.Append(f.name)
	}
	if e == api.OK && left.spared {
		e = f.disk.Remove(f.spare)
	}
	if e == api.OK && left.torn {
		e = f.disk.Truncate(f.name, f.size)
	}
	if e == api.OK {
		e = f.disk.Sync(f.name)
	}
	return e
}

// sparable tells whether a crash may leave a spare file so.
func sparable(b []byte) bool {
	s, size, ok := load(b)
	return ok && bytes.HasPrefix(slices.Concat(framesOf(s.changes()...)...), b[:size])
}

// load is the state to which a file's changes lead, and how many bytes those
// take that are complete. It isn't ok if a crash can't leave a file so.
func load(b []byte) (s state, size int, ok bool) {
	payloads, scanned, kind := frame.Scan(b)
	var part []byte
	at := 0
	for _, p := range payloads {
		at += headSize + len(p)
		part = append(part, p...)
		if len(p) == api.MaxFrame {
			continue
		}
		c, found := parse(part, 0)
		if found != frame.Whole || !c.fits(&s) || c.idle(&s) {
			return state{}, 0, false
		}
		c.apply(&s)
		part, size = nil, at
	}
	if kind == frame.Bad || !tearable(part, b[scanned:]) {
		return state{}, 0, false
	}
	return s, size, true
}

// tearable tells whether a crash may leave no more of a change than the full
// payloads in part and, of one frame behind them, a piece that isn't whole.
func tearable(part, piece []byte) bool {
	least := leastLength(piece)
	payload := piece[min(headSize, len(piece)):]
	lost := least - len(payload)
	if len(piece) < lengthSize || least == api.MaxFrame { // nothing tells how much there was
		lost = api.MaxDisk
	}
	_, kind := parse(slices.Concat(part, payload), lost)
	if kind == frame.Whole {
		return least == 0 // all that is missing is an empty frame at the end
	}
	return kind == frame.Torn && least <= api.MaxFrame
}

// leastLength is the least length that a frame which begins so may have.
func leastLength(piece []byte) int {
	n := 0
	for i := range lengthSize {
		n <<= 8
		if i < len(piece) {
			n |= int(piece[i])
		}
	}
	return n
}

// framesOf is changes as a file has them. Each takes as many full frames as it
// fills and one, empty even, that isn't full: so its end is known.
func framesOf(l ...change) [][]byte {
	var frames [][]byte
	for _, c := range l {
		var w writer
		c.write(&w)
		for full := true; full; {
			n := min(len(w.bytes), api.MaxFrame)
			full = n == api.MaxFrame
			f, _ := frame.Put(w.bytes[:n])
			frames = append(frames, f)
			w.bytes = w.bytes[n:]
		}
	}
	return frames
}

// length is how many bytes all parts have.
func length(parts [][]byte) int {
	n := 0
	for _, p := range parts {
		n += len(p)
	}
	return n
}
