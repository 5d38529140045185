package disk

import (
	"bytes"
	"math"
	"slices"
	"testing"

	"quiver/api"
)

// made is a new disk with that room.
func made(t *testing.T, room int) *Disk {
	t.Helper()
	d, err := New(room)
	if err != api.OK || d == nil {
		t.Fatalf("New(%d): %v, %d", room, d, err)
	}
	return d
}

// counted are n bytes, the first one is from.
func counted(from, n int) []byte {
	b := make([]byte, n)
	for i := range b {
		b[i] = byte(from + i)
	}
	return b
}

// is holds an error against the one that has to be answered.
func is(t *testing.T, what string, got, want api.Errno) {
	t.Helper()
	if got != want {
		t.Errorf("%s: %d, not %d", what, got, want)
	}
}

// must is is, of a step without which the rest of a test tells nothing.
func must(t *testing.T, got api.Errno) {
	t.Helper()
	if got != api.OK {
		t.Fatalf("a step answered %d", got)
	}
}

// names holds a list of names against the one that has to be told.
func names(t *testing.T, what string, got []int, want ...int) {
	t.Helper()
	if !slices.Equal(got, want) {
		t.Errorf("%s: %v, not %v", what, got, want)
	}
}

// holds holds the file against the bytes that it has to have; it asks a copy, so that no operation is counted. A dead one can't be read: its copy crashes first, with all its pieces.
func holds(t *testing.T, what string, d *Disk, file int, want []byte) {
	t.Helper()
	c := d.Copy()
	if c.Dead() {
		c.Crash(all)
	}
	c.Arm(-1)
	c.Fail(-1)
	got, err := c.Read(file)
	if err != api.OK || !bytes.Equal(got, want) || d.Size(file) != len(want) {
		t.Errorf("%s: file %d has %v (%d, size %d), not %v", what, file, got, err, d.Size(file), want)
	}
}

// all keeps all pieces of the greatest disk.
var all = slices.Repeat([]bool{true}, api.MaxRoom/api.Piece+api.MaxFiles)

// wrongNames are no names.
var wrongNames = []int{-1, api.MaxFiles, api.MaxFiles + 1, math.MinInt, math.MaxInt}

// P2.1: the least and the greatest room, and one less and more.
func TestNewRooms(t *testing.T) {
	for _, room := range []int{1, 2, api.MaxRoom - 1, api.MaxRoom} {
		d := made(t, room)
		if d.Room() != room || len(d.Files()) != 0 || len(d.Pending()) != 0 || d.Ops() != 0 || d.Dead() {
			t.Errorf("New(%d): %+v", room, d)
		}
		for file := range api.MaxFiles {
			if d.Size(file) != 0 {
				t.Errorf("New(%d): file %d has %d", room, file, d.Size(file))
			}
		}
	}
	for _, room := range []int{0, -1, api.MaxRoom + 1, math.MinInt, math.MaxInt} {
		d, err := New(room)
		if d != nil || err != api.ErrArg {
			t.Errorf("New(%d): %v, %d", room, d, err)
		}
	}
}

// P2.1, P2.5: a new disk is neither armed nor set to fail.
func TestNewIsQuiet(t *testing.T) {
	d := made(t, 8)
	for range 100 {
		is(t, "Append", d.Append(0, nil), api.OK)
	}
}

// P2.1: nil of nil.
func TestCopyOfNil(t *testing.T) {
	var d *Disk
	if d.Copy() != nil {
		t.Error("a copy of nil")
	}
}

// busy is a disk of which everything has something: files synced, loose, mixed and not kept.
func busy(t *testing.T) *Disk {
	t.Helper()
	d := made(t, 100)
	must(t, d.Append(0, counted(0, 10)))
	must(t, d.Sync(0))
	must(t, d.Append(0, counted(10, 10)))
	must(t, d.Append(1, counted(40, 9)))
	must(t, d.Append(3, counted(60, 5)))
	must(t, d.Sync(3))
	return d
}

// P2.1: a copy tells what its origin tells, armed, set to fail and dead too.
func TestCopyIsTheSame(t *testing.T) {
	d := busy(t)
	must(t, d.Fail(0))
	must(t, d.Arm(1))
	for range 2 {
		c := d.Copy()
		for step := range 3 {
			names(t, "Files", c.Files(), d.Files()...)
			names(t, "Pending", c.Pending(), d.Pending()...)
			if c.Room() != d.Room() || c.Ops() != d.Ops() || c.Dead() != d.Dead() {
				t.Errorf("step %d: %+v, not %+v", step, c, d)
			}
			for file := range api.MaxFiles {
				if c.Size(file) != d.Size(file) {
					t.Errorf("step %d: file %d has %d, not %d", step, file, c.Size(file), d.Size(file))
				}
			}
			is(t, "Append to the copy", c.Append(2, []byte{1}), d.Append(2, []byte{1}))
		}
		if !d.Dead() {
			t.Error("the power did not go")
		}
	}
}

// P2.1: what is done to a copy, or to its origin, is not seen by the other one.
func TestCopyIsApart(t *testing.T) {
	changes := map[string]func(d *Disk){
		"Append":   func(d *Disk) { d.Append(0, []byte{99}) },
		"Sync":     func(d *Disk) { d.Sync(0) },
		"Truncate": func(d *Disk) { d.Truncate(0, 3); d.Append(0, []byte{99, 98, 97}) },
		"Rename":   func(d *Disk) { d.Rename(0, 2) },
		"Over":     func(d *Disk) { d.Rename(1, 0) },
		"Remove":   func(d *Disk) { d.Remove(0) },
		"New file": func(d *Disk) { d.Append(2, []byte{99}) },
		"Arm":      func(d *Disk) { d.Arm(0) },
		"Dead":     func(d *Disk) { d.Arm(0); d.Sync(0) },
		"Fail":     func(d *Disk) { d.Fail(0) },
		"Crash":    func(d *Disk) { d.Crash(nil) },
	}
	for what, change := range changes {
		for way, of := range map[string]func(d *Disk) (changed, other *Disk){
			"copy":   func(d *Disk) (*Disk, *Disk) { return d.Copy(), d },
			"origin": func(d *Disk) (*Disk, *Disk) { return d, d.Copy() },
		} {
			changed, other := of(busy(t))
			change(changed)
			what := what + " of the " + way
			names(t, what+", Files", other.Files(), 0, 1, 3)
			names(t, what+", Pending", other.Pending(), 0, 0, 1, 1)
			if other.Ops() != 6 || other.Dead() {
				t.Errorf("%s: %d operations, dead %v", what, other.Ops(), other.Dead())
			}
			is(t, what+", an operation behind it", other.Append(3, nil), api.OK)
			holds(t, what, other, 0, counted(0, 20))
			holds(t, what, other, 1, counted(40, 9))
			holds(t, what, other, 3, counted(60, 5))
			must(t, other.Crash(nil))
			holds(t, what+", behind a Crash", other, 0, counted(0, 10))
		}
	}
}

// P2.1: two that were appended behind one another's origin do not meet in memory.
func TestCopiesGrowApart(t *testing.T) {
	for n := range 40 {
		d := made(t, 100)
		must(t, d.Append(0, counted(0, n)))
		c := d.Copy()
		must(t, d.Append(0, []byte{101}))
		must(t, c.Append(0, []byte{102}))
		holds(t, "origin", d, 0, append(counted(0, n), 101))
		holds(t, "copy", c, 0, append(counted(0, n), 102))
	}
}

// P2.2: what is told of the files, whatever order they came in.
func TestTold(t *testing.T) {
	d := made(t, 64)
	must(t, d.Append(3, counted(0, 3)))
	must(t, d.Append(1, nil))
	must(t, d.Append(0, counted(0, 17)))
	names(t, "Files", d.Files(), 0, 1, 3)
	names(t, "Pending", d.Pending(), 0, 0, 0, 3)
	for file, want := range []int{17, 0, 0, 3} {
		if d.Size(file) != want {
			t.Errorf("Size(%d): %d", file, d.Size(file))
		}
	}
	if d.Room() != 64 || d.Ops() != 3 || d.Dead() {
		t.Errorf("%d, %d, %v", d.Room(), d.Ops(), d.Dead())
	}
	for _, file := range wrongNames {
		if d.Size(file) != 0 {
			t.Errorf("Size(%d): %d", file, d.Size(file))
		}
	}
}

// P2.2: pieces of fewer bytes than Piece, of just so many, and of more; they begin where the loose bytes begin.
func TestPendingPieces(t *testing.T) {
	for synced := range 2*api.Piece + 2 {
		for loose := range 3*api.Piece + 2 {
			d := made(t, 100)
			must(t, d.Append(2, counted(0, synced)))
			must(t, d.Sync(2))
			for i := range loose {
				must(t, d.Append(2, counted(i, 1)))
			}
			want := (loose + api.Piece - 1) / api.Piece
			names(t, "Pending", d.Pending(), slices.Repeat([]int{2}, want)...)
		}
	}
}

// P2.2: a dead disk still tells.
func TestToldOfADeadOne(t *testing.T) {
	d := busy(t)
	must(t, d.Arm(0))
	is(t, "Append", d.Append(2, counted(0, 9)), api.ErrDead)
	names(t, "Files", d.Files(), 0, 1, 2, 3)
	names(t, "Pending", d.Pending(), 0, 0, 1, 1, 2, 2)
	if !d.Dead() || d.Room() != 100 || d.Size(2) != 9 || d.Size(0) != 20 || d.Ops() != 7 {
		t.Errorf("%v, %d, %d, %d, %d", d.Dead(), d.Room(), d.Size(2), d.Size(0), d.Ops())
	}
}

// P2.2 to P2.5, R4: of nil 0, nothing, false; ErrNil ahead of all else.
func TestNil(t *testing.T) {
	var d *Disk
	if d.Room() != 0 || d.Files() != nil || d.Pending() != nil || d.Ops() != 0 || d.Dead() {
		t.Error("told of nil")
	}
	for _, file := range []int{-1, 0, 3, 4} {
		if d.Size(file) != 0 {
			t.Error("Size of nil")
		}
		for what, err := range asked(d, file, -7) {
			is(t, what+" of nil", err, api.ErrNil)
		}
	}
	is(t, "Arm of nil", d.Arm(-2), api.ErrNil)
	is(t, "Fail of nil", d.Fail(-2), api.ErrNil)
	is(t, "Crash of nil", d.Crash(nil), api.ErrNil)
}

// asked asks every operation of a file, each of a copy; n is where Truncate cuts. Beside an error Read answers nothing.
func asked(d *Disk, file, n int) map[string]api.Errno {
	b, read := d.Copy().Read(file)
	if read != api.OK && len(b) != 0 {
		panic("bytes beside an error")
	}
	return map[string]api.Errno{
		"Append":      d.Copy().Append(file, nil),
		"Sync":        d.Copy().Sync(file),
		"Read":        read,
		"Truncate":    d.Copy().Truncate(file, n),
		"Rename from": d.Copy().Rename(file, 0),
		"Rename to":   d.Copy().Rename(0, file),
		"Remove":      d.Copy().Remove(file),
	}
}

// P2.2, R3: lists that are told are the caller's own.
func TestToldIsNewMemory(t *testing.T) {
	d := busy(t)
	clear(d.Files())
	clear(d.Pending())
	names(t, "Files", d.Files(), 0, 1, 3)
	names(t, "Pending", d.Pending(), 0, 0, 1, 1)
}
