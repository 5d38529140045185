package wal

import (
	"bytes"
	"encoding/binary"
	"hash/fnv"
	"math"
	"slices"
	"testing"

	"quiver/api"
	"quiver/disk"
)

// counted are n bytes, the first one is from.
func counted(from, n int) []byte {
	b := make([]byte, n)
	for i := range b {
		b[i] = byte(from + i)
	}
	return b
}

func sum(b []byte) uint64 {
	h := fnv.New64a()
	h.Write(b)
	return h.Sum64()
}

// headOf is a head as the chapter words it, of whatever limit.
func headOf(most uint32) []byte {
	b := binary.BigEndian.AppendUint32([]byte("quivrlog"), most)
	return binary.BigEndian.AppendUint64(b, sum(b))
}

// frameOf is a part's frame as the chapter words it.
func frameOf(number int, part []byte) []byte {
	b := binary.BigEndian.AppendUint32(nil, uint32(len(part)))
	b = binary.BigEndian.AppendUint64(b, sum(append(binary.BigEndian.AppendUint64(nil, uint64(number)), part...)))
	return append(b, part...)
}

// fileOf is the log's file as the chapter words it.
func fileOf(most int, parts ...[]byte) []byte {
	b := headOf(uint32(most))
	for number, part := range parts {
		b = append(b, frameOf(number, part)...)
	}
	return b
}

// diskOf is a disk that has just those files, all of them synced. Nothing of them was an operation.
func diskOf(t *testing.T, room int, files map[int][]byte) *disk.Disk {
	t.Helper()
	d, err := disk.New(room)
	for name := range api.MaxFiles {
		b, there := files[name]
		if !there || err != api.OK {
			continue
		}
		if err = d.Append(name, b); err == api.OK {
			err = d.Sync(name)
		}
	}
	if err != api.OK {
		t.Fatalf("a disk with room for %d: %d", room, err)
	}
	return d
}

// roomOf is just as much as a log of that limit needs.
func roomOf(most int) int {
	return 2 * (most + 20)
}

// formatted is a log on a disk that has just the room for it.
func formatted(t *testing.T, most int) (*Wal, *disk.Disk) {
	t.Helper()
	d := diskOf(t, roomOf(most), nil)
	w, err := Format(d, most)
	if err != api.OK {
		t.Fatalf("Format of %d: %d", most, err)
	}
	return w, d
}

// opened is the log that is on the disk.
func opened(t *testing.T, what string, d *disk.Disk) *Wal {
	t.Helper()
	w, err := Open(d)
	if err != api.OK {
		t.Fatalf("%s: Open: %d", what, err)
	}
	return w
}

// filled is a log with the limit 200, a snapshot of 5 bytes, and records of 3, 0 and 9 bytes; 135 is left.
func filled(t *testing.T) (*Wal, *disk.Disk) {
	t.Helper()
	w, d := formatted(t, 200)
	is(t, "Checkpoint", w.Checkpoint(counted(50, 5)), api.OK)
	for _, b := range records() {
		is(t, "Append", w.Append(b), api.OK)
	}
	return w, d
}

// records are those of filled.
func records() [][]byte {
	return [][]byte{counted(1, 3), nil, counted(9, 9)}
}

// parts are those of filled, and those behind them.
func parts(behind ...[]byte) [][]byte {
	return slices.Concat([][]byte{counted(50, 5)}, records(), behind)
}

func is(t *testing.T, what string, got, want api.Errno) {
	t.Helper()
	if got != want {
		t.Errorf("%s: %d, not %d", what, got, want)
	}
}

// tells holds what a log tells against its limit and its parts.
func tells(t *testing.T, what string, w *Wal, most int, parts ...[]byte) {
	t.Helper()
	if !bytes.Equal(w.Snapshot(), parts[0]) {
		t.Errorf("%s: Snapshot: %v, not %v", what, w.Snapshot(), parts[0])
	}
	if !slices.EqualFunc(w.All(), parts[1:], bytes.Equal) {
		t.Errorf("%s: All: %v, not %v", what, w.All(), parts[1:])
	}
	left := most
	for _, part := range parts {
		left -= len(part) + 12
	}
	if w.Len() != len(parts)-1 || w.Left() != left || w.Most() != most {
		t.Errorf("%s: Len %d, Left %d, Most %d; not %d, %d, %d", what, w.Len(), w.Left(), w.Most(), len(parts)-1, left, most)
	}
}

// whole holds a log that is not broken against its limit and its parts, and against what the disk has.
func whole(t *testing.T, what string, w *Wal, d *disk.Disk, most int, parts ...[]byte) {
	t.Helper()
	tells(t, what, w, most, parts...)
	if w.Broken() {
		t.Errorf("%s: it is broken", what)
	}
	has(t, what, d, api.LogFile, fileOf(most, parts...))
	if slices.Contains(d.Files(), api.NewFile) {
		t.Errorf("%s: NewFile is there", what)
	}
}

// contents are the files that are there, loose bytes too, of a dead disk as well.
func contents(d *disk.Disk) map[int][]byte {
	c := d.Copy()
	keep := make([]bool, len(c.Pending()))
	for i := range keep {
		keep[i] = true
	}
	c.Crash(keep)
	files := map[int][]byte{}
	for _, name := range d.Files() {
		files[name], _ = c.Read(name)
	}
	return files
}

func has(t *testing.T, what string, d *disk.Disk, file int, want []byte) {
	t.Helper()
	if got := contents(d)[file]; !bytes.Equal(got, want) {
		t.Errorf("%s: file %d has %v, not %v", what, file, got, want)
	}
}

// alike holds a disk against another one, in all that can be told of both.
func alike(t *testing.T, what string, got, want *disk.Disk) {
	t.Helper()
	if !slices.Equal(got.Files(), want.Files()) || !slices.Equal(got.Pending(), want.Pending()) {
		t.Errorf("%s: Files %v, Pending %v; not %v, %v", what, got.Files(), got.Pending(), want.Files(), want.Pending())
	}
	if got.Ops() != want.Ops() || got.Dead() != want.Dead() {
		t.Errorf("%s: Ops %d, Dead %v; not %d, %v", what, got.Ops(), got.Dead(), want.Ops(), want.Dead())
	}
	for name, b := range contents(want) {
		has(t, what, got, name, b)
	}
}

// step is one operation of a disk.
type step func(d *disk.Disk) api.Errno

func appends(file int, b []byte) step {
	return func(d *disk.Disk) api.Errno { return d.Append(file, b) }
}

func syncs(file int) step {
	return func(d *disk.Disk) api.Errno { return d.Sync(file) }
}

func reads(file int) step {
	return func(d *disk.Disk) api.Errno {
		_, err := d.Read(file)
		return err
	}
}

func truncates(file, n int) step {
	return func(d *disk.Disk) api.Errno { return d.Truncate(file, n) }
}

func removes(file int) step {
	return func(d *disk.Disk) api.Errno { return d.Remove(file) }
}

func renames(from, to int) step {
	return func(d *disk.Disk) api.Errno { return d.Rename(from, to) }
}

// byHand does the steps up to the first one that has an error.
func byHand(d *disk.Disk, steps []step) api.Errno {
	for _, do := range steps {
		if err := do(d); err != api.OK {
			return err
		}
	}
	return api.OK
}

// renewal are the steps by which a new file gets the log's name.
func renewal(b []byte) []step {
	return []step{appends(1, b), syncs(1), renames(1, 0)}
}

// troubles are all that can come to a row of so many steps, and none.
func troubles(steps int) map[string]step {
	all := map[string]step{"no trouble": func(*disk.Disk) api.Errno { return api.OK }}
	for n := range steps + 1 {
		at := string(rune('0' + n))
		all["it fails at "+at] = func(d *disk.Disk) api.Errno { return d.Fail(n) }
		all["the power goes at "+at] = func(d *disk.Disk) api.Errno { return d.Arm(n) }
		all["both at "+at] = func(d *disk.Disk) api.Errno { return max(d.Fail(n), d.Arm(n)) }
	}
	return all
}

// P4.1 to P4.4: the chapter's examples.
func TestExamples(t *testing.T) {
	d := diskOf(t, 400, nil)
	w, err := Format(d, 100)
	is(t, "Format", err, api.OK)
	if w.Left() != 88 {
		t.Errorf("Left: %d", w.Left())
	}
	is(t, "Append of 3", w.Append(counted(1, 3)), api.OK)
	if w.Left() != 73 {
		t.Errorf("Left: %d", w.Left())
	}
	is(t, "Append of 62", w.Append(counted(1, 62)), api.ErrFull)

	is(t, "Arm", d.Arm(0), api.OK)
	is(t, "Append of 4", w.Append(counted(1, 4)), api.ErrDead)
	if n := len(d.Pending()); n != 2 {
		t.Errorf("%d pieces", n)
	}
	is(t, "Crash", d.Crash([]bool{true}), api.OK)
	if d.Size(0) != 55 {
		t.Errorf("Size: %d", d.Size(0))
	}
	w = opened(t, "behind it", d)
	if w.Len() != 1 || d.Size(0) != 47 {
		t.Errorf("Len %d, Size %d", w.Len(), d.Size(0))
	}

	is(t, "Checkpoint of 10", w.Checkpoint(counted(7, 10)), api.OK)
	if w.Len() != 0 || w.Left() != 78 {
		t.Errorf("Len %d, Left %d", w.Len(), w.Left())
	}
	if b := opened(t, "behind it", d).Snapshot(); !bytes.Equal(b, counted(7, 10)) {
		t.Errorf("Snapshot: %v", b)
	}

	_, err = Format(diskOf(t, 200, nil), 100)
	is(t, "Format with room for 200", err, api.ErrArg)
	_, err = Open(diskOf(t, 400, nil))
	is(t, "Open of an empty disk", err, api.ErrWal)
}

// P4.1 to P4.5, R4: a nil disk and a nil log, whatever comes beside them.
func TestNil(t *testing.T) {
	for _, most := range []int{64, 100, 0, -1, math.MaxInt} {
		w, err := Format(nil, most)
		if w != nil || err != api.ErrNil {
			t.Errorf("Format(nil, %d): %v, %d", most, w, err)
		}
	}
	w, err := Open(nil)
	if w != nil || err != api.ErrNil {
		t.Errorf("Open(nil): %v, %d", w, err)
	}
	for _, b := range [][]byte{nil, {}, {1}, make([]byte, 16001)} {
		is(t, "Append of nil", w.Append(b), api.ErrNil)
		is(t, "Checkpoint of nil", w.Checkpoint(b), api.ErrNil)
	}
	if len(w.Snapshot()) != 0 || len(w.All()) != 0 || w.Len() != 0 || w.Left() != 0 || w.Most() != 0 || w.Broken() {
		t.Errorf("nil tells %v, %v, %d, %d, %d, %v", w.Snapshot(), w.All(), w.Len(), w.Left(), w.Most(), w.Broken())
	}
}
