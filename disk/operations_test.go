package disk

import (
	"bytes"
	"math"
	"slices"
	"testing"

	"quiver/api"
)

// P2.3, P2.4: what is no name, on each side of the names; the first and the last name are ones.
func TestNames(t *testing.T) {
	d := made(t, 8)
	must(t, d.Append(0, []byte{1}))
	for _, file := range wrongNames {
		for what, err := range asked(d, file, -7) {
			is(t, what, err, api.ErrFile)
		}
	}
	for _, file := range []int{0, api.MaxFiles - 1} {
		d := made(t, 8)
		must(t, d.Append(0, nil))
		must(t, d.Append(file, []byte{1}))
		for what, err := range asked(d, file, 0) {
			is(t, what, err, api.OK)
		}
	}
}

// P2.3, P2.4: a file that is not there; an Append, and a Rename to it, need none.
func TestNotThere(t *testing.T) {
	d := made(t, 8)
	must(t, d.Append(0, []byte{1}))
	for file := 1; file < api.MaxFiles; file++ {
		for what, err := range asked(d, file, -7) {
			want := api.ErrNone
			if what == "Append" || what == "Rename to" {
				want = api.OK
			}
			is(t, what, err, want)
		}
	}
	is(t, "Rename of none to itself", d.Rename(2, 2), api.ErrNone)
}

// P2.3 to P2.5, R2: of several errors the first one; a dead disk answers ErrDead whatever is asked.
func TestErrorsInOrder(t *testing.T) {
	d := made(t, 4)
	must(t, d.Append(0, counted(0, 4)))
	for _, c := range []struct {
		what      string
		got, want api.Errno
	}{
		{"Append: no name, no room", d.Append(-1, counted(0, 9)), api.ErrFile},
		{"Truncate: no name, no place", d.Truncate(4, -1), api.ErrFile},
		{"Truncate: not there, no place", d.Truncate(1, -1), api.ErrNone},
		{"Truncate: not there, above", d.Truncate(1, 1), api.ErrNone},
		{"Rename: not there, to no name", d.Rename(1, 4), api.ErrFile},
		{"Rename: no name, to none there", d.Rename(-1, 1), api.ErrFile},
		{"Rename: there, to no name", d.Rename(0, -1), api.ErrFile},
		{"Rename: no names", d.Rename(-1, -1), api.ErrFile},
	} {
		is(t, c.what, c.got, c.want)
	}
	if d.Ops() != 1 {
		t.Errorf("what is refused was counted: %d", d.Ops())
	}
	must(t, d.Arm(0))
	is(t, "Read", asked(d, 0, 0)["Read"], api.ErrDead)
	is(t, "Sync", d.Sync(0), api.ErrDead)
	for _, file := range []int{-1, 0, 1, api.MaxFiles} {
		for what, err := range asked(d, file, -7) {
			is(t, what+" of a dead one", err, api.ErrDead)
		}
		is(t, "Append of too much to a dead one", d.Append(file, counted(0, 9)), api.ErrDead)
	}
	for _, n := range []int{math.MinInt, -2, -1, 0, 1} {
		is(t, "Arm of a dead one", d.Arm(n), api.ErrDead)
		is(t, "Fail of a dead one", d.Fail(n), api.ErrDead)
	}
	if d.Ops() != 2 {
		t.Errorf("what a dead one refuses was counted: %d", d.Ops())
	}
}

// P2.3: an Append that just fills the room, and one byte more; the bytes of all files count together.
func TestAppendFills(t *testing.T) {
	for _, room := range []int{1, 7, 40, api.MaxRoom} {
		d := made(t, room)
		is(t, "too much at once", d.Append(0, counted(0, room+1)), api.ErrFull)
		names(t, "Files behind it", d.Files())
		half := room / 2
		is(t, "a half", d.Append(0, counted(0, half)), api.OK)
		is(t, "one byte too much", d.Append(1, counted(0, room-half+1)), api.ErrFull)
		is(t, "too much for the same file", d.Append(0, counted(0, room-half+1)), api.ErrFull)
		is(t, "just so much", d.Append(1, counted(half, room-half)), api.OK)
		holds(t, "full", d, 0, counted(0, half))
		holds(t, "full", d, 1, counted(half, room-half))
		for file := range api.MaxFiles {
			is(t, "one byte more", d.Append(file, []byte{1}), api.ErrFull)
			is(t, "no byte more", d.Copy().Append(file, nil), api.OK)
		}
		if d.Ops() != 2 || d.Dead() {
			t.Errorf("room %d: %d operations", room, d.Ops())
		}
	}
}

// P2.3, P2.4: what is cut off, removed or renamed over makes room again.
func TestRoomComesBack(t *testing.T) {
	for what, free := range map[string]func(d *Disk) api.Errno{
		"Truncate": func(d *Disk) api.Errno { return d.Truncate(0, 3) },
		"Remove":   func(d *Disk) api.Errno { return d.Remove(0) },
		"Rename":   func(d *Disk) api.Errno { return d.Rename(1, 0) },
		"Crash":    func(d *Disk) api.Errno { return d.Crash(nil) },
	} {
		d := made(t, 10)
		must(t, d.Append(0, counted(0, 6)))
		must(t, d.Append(1, counted(0, 4)))
		is(t, what, free(d), api.OK)
		left := 10 - d.Size(0) - d.Size(1)
		is(t, "behind "+what+", one too much", d.Append(2, counted(0, left+1)), api.ErrFull)
		is(t, "behind "+what, d.Append(2, counted(0, left)), api.OK)
	}
}

// P2.3: an Append of no bytes makes the file, and it is not kept; of one that is kept it leaves it so.
func TestAppendOfNoBytes(t *testing.T) {
	for _, b := range [][]byte{nil, {}} {
		d := made(t, 8)
		is(t, "Append", d.Append(2, b), api.OK)
		names(t, "Files", d.Files(), 2)
		names(t, "Pending", d.Pending())
		got, err := d.Read(2)
		if len(got) != 0 || err != api.OK || d.Size(2) != 0 || d.Ops() != 2 {
			t.Errorf("%v, %d, %d, %d", got, err, d.Size(2), d.Ops())
		}
		c := d.Copy()
		must(t, c.Crash(all))
		names(t, "Files behind a Crash", c.Files())
		must(t, d.Sync(2))
		must(t, d.Append(2, b))
		must(t, d.Crash(nil))
		names(t, "Files behind a Sync and a Crash", d.Files(), 2)
	}
}

// P2.3: bytes are laid behind those that are there, and read all together.
func TestAppendSyncRead(t *testing.T) {
	d := made(t, 100)
	var want []byte
	for i := range 12 {
		b := counted(3*i, i)
		must(t, d.Append(1, b))
		want = append(want, b...)
		if i%3 == 2 {
			is(t, "Sync", d.Sync(1), api.OK)
			names(t, "Pending behind a Sync", d.Pending())
		}
		got, err := d.Read(1)
		if err != api.OK || !bytes.Equal(got, want) {
			t.Errorf("Read: %v, %d, not %v", got, err, want)
		}
	}
	must(t, d.Crash(nil))
	holds(t, "synced", d, 1, want)
}

// P2.3, R3: the bytes that are handed in are not changed and not kept, the room behind their end neither.
func TestAppendCopies(t *testing.T) {
	d := made(t, 100)
	whole := counted(0, 20)
	must(t, d.Append(0, whole[:5]))
	must(t, d.Append(0, []byte{77, 78}))
	must(t, d.Append(1, whole[:5]))
	if !bytes.Equal(whole, counted(0, 20)) {
		t.Errorf("handed in, and changed: %v", whole)
	}
	clear(whole)
	holds(t, "kept", d, 0, []byte{0, 1, 2, 3, 4, 77, 78})
	holds(t, "kept", d, 1, counted(0, 5))
}

// P2.3, R3: the bytes that are read are the caller's own, the room behind their end too.
func TestReadCopies(t *testing.T) {
	d := made(t, 100)
	must(t, d.Append(0, counted(0, 9)))
	got, err := d.Read(0)
	must(t, err)
	clear(got[:cap(got)])
	must(t, d.Append(0, []byte{9}))
	if !bytes.Equal(got, make([]byte, 9)) {
		t.Errorf("read, and changed: %v", got)
	}
	holds(t, "kept", d, 0, counted(0, 10))
	must(t, d.Truncate(0, 4))
	got, err = d.Read(0)
	must(t, err)
	_ = append(got, 55, 55)
	must(t, d.Append(0, []byte{4}))
	holds(t, "kept", d, 0, counted(0, 5))
}

// P2.4: Truncate everywhere from below 0 to above the Size; what is left of synced and loose bytes is as it was.
func TestTruncate(t *testing.T) {
	const synced, size = 10, 27
	for n := -2; n <= size+2; n++ {
		d := made(t, 100)
		must(t, d.Append(1, counted(0, synced)))
		must(t, d.Sync(1))
		must(t, d.Append(1, counted(synced, size-synced)))
		if n < 0 || n > size {
			is(t, "Truncate", d.Truncate(1, n), api.ErrArg)
			holds(t, "refused", d, 1, counted(0, size))
			if d.Ops() != 3 {
				t.Errorf("Truncate(1, %d) was counted", n)
			}
			continue
		}
		is(t, "Truncate", d.Truncate(1, n), api.OK)
		holds(t, "cut", d, 1, counted(0, n))
		loose := max(n-synced, 0)
		names(t, "Pending", d.Pending(), slices.Repeat([]int{1}, (loose+api.Piece-1)/api.Piece)...)
		must(t, d.Append(1, counted(200, 3)))
		holds(t, "cut and laid behind", d, 1, append(counted(0, n), counted(200, 3)...))
		must(t, d.Crash(nil))
		holds(t, "cut, and a Crash", d, 1, counted(0, min(n, synced)))
		names(t, "Files", d.Files(), 1)
	}
	d := made(t, 8)
	must(t, d.Append(0, nil))
	for _, n := range []int{math.MinInt, -1, 1, math.MaxInt} {
		is(t, "Truncate of an empty one", d.Truncate(0, n), api.ErrArg)
	}
	is(t, "Truncate of an empty one", d.Truncate(0, 0), api.OK)
}

// P2.4: Truncate keeps no file that was not kept.
func TestTruncateKeepsNothing(t *testing.T) {
	d := made(t, 20)
	must(t, d.Append(0, counted(0, 9)))
	must(t, d.Truncate(0, 0))
	names(t, "Files", d.Files(), 0)
	must(t, d.Crash(all))
	names(t, "Files behind a Crash", d.Files())
}

// P2.4: Rename to a name that is free: bytes stay synced and loose as they were; the new name is kept.
func TestRenameToAFreeName(t *testing.T) {
	d := made(t, 40)
	must(t, d.Append(0, counted(0, 10)))
	must(t, d.Sync(0))
	must(t, d.Append(0, counted(10, 9)))
	is(t, "Rename", d.Rename(0, 3), api.OK)
	names(t, "Files", d.Files(), 3)
	names(t, "Pending", d.Pending(), 3, 3)
	holds(t, "renamed", d, 3, counted(0, 19))
	must(t, d.Crash([]bool{true}))
	names(t, "Files behind a Crash", d.Files(), 3)
	holds(t, "renamed, and a Crash", d, 3, counted(0, 18))
}

// P2.4: what was not kept is, behind a Rename, also without a byte that is left.
func TestRenameKeeps(t *testing.T) {
	for _, b := range [][]byte{nil, counted(0, 9)} {
		d := made(t, 40)
		must(t, d.Append(0, b))
		must(t, d.Rename(0, 1))
		must(t, d.Crash(nil))
		names(t, "Files", d.Files(), 1)
		holds(t, "renamed", d, 1, nil)
	}
}

// P2.4: Rename to a file that is there: nothing of that one is left, behind a Crash neither.
func TestRenameOverAFile(t *testing.T) {
	d := busy(t)
	is(t, "Rename", d.Rename(1, 3), api.OK)
	names(t, "Files", d.Files(), 0, 3)
	names(t, "Pending", d.Pending(), 0, 0, 3, 3)
	holds(t, "renamed", d, 3, counted(40, 9))
	holds(t, "another", d, 0, counted(0, 20))
	must(t, d.Crash(nil))
	names(t, "Files behind a Crash", d.Files(), 0, 3)
	holds(t, "renamed, and a Crash", d, 3, nil)
}

// P2.4: Rename to itself is nothing, it keeps nothing either; but it is an operation.
func TestRenameToItself(t *testing.T) {
	d := made(t, 40)
	must(t, d.Append(2, counted(0, 9)))
	is(t, "Rename", d.Rename(2, 2), api.OK)
	names(t, "Files", d.Files(), 2)
	names(t, "Pending", d.Pending(), 2, 2)
	holds(t, "renamed", d, 2, counted(0, 9))
	if d.Ops() != 2 {
		t.Errorf("%d operations", d.Ops())
	}
	must(t, d.Crash(nil))
	names(t, "Files behind a Crash", d.Files())
}

// P2.4: the old name may be taken anew, and has nothing of the file that went.
func TestOldNameIsFree(t *testing.T) {
	for what, leave := range map[string]func(d *Disk) api.Errno{
		"Rename": func(d *Disk) api.Errno { return d.Rename(0, 2) },
		"Remove": func(d *Disk) api.Errno { return d.Remove(0) },
	} {
		d := busy(t)
		is(t, what, leave(d), api.OK)
		is(t, "Read behind "+what, d.Sync(0), api.ErrNone)
		must(t, d.Append(0, []byte{5}))
		holds(t, what, d, 0, []byte{5})
		must(t, d.Crash(nil))
		if slices.Contains(d.Files(), 0) {
			t.Errorf("behind %s and a Crash: %v", what, d.Files())
		}
	}
}

// P2.4: a file that was removed stays away when the power goes, synced or not.
func TestRemove(t *testing.T) {
	d := busy(t)
	is(t, "Remove", d.Remove(0), api.OK)
	is(t, "Remove", d.Remove(3), api.OK)
	names(t, "Files", d.Files(), 1)
	names(t, "Pending", d.Pending(), 1, 1)
	is(t, "Remove again", d.Remove(0), api.ErrNone)
	must(t, d.Crash(all))
	names(t, "Files behind a Crash", d.Files(), 1)
	holds(t, "another", d, 1, counted(40, 9))
}
