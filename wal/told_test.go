package wal

import (
	"bytes"
	"testing"

	"quiver/api"
	"quiver/disk"
)

// P4.5: what is told of a new log, of one with records, and of one that was opened.
func TestTold(t *testing.T) {
	w, d := formatted(t, 200)
	if len(w.Snapshot()) != 0 || len(w.All()) != 0 || w.Len() != 0 || w.Left() != 188 || w.Most() != 200 || w.Broken() {
		t.Errorf("new: %v, %v, %d, %d, %d, %v", w.Snapshot(), w.All(), w.Len(), w.Left(), w.Most(), w.Broken())
	}
	w, d = filled(t)
	for range 2 {
		if w.Len() != 3 || w.Left() != 135 || w.Most() != 200 || w.Broken() {
			t.Errorf("filled: %d, %d, %d, %v", w.Len(), w.Left(), w.Most(), w.Broken())
		}
		tells(t, "filled", w, 200, parts()...)
		w = opened(t, "filled", d)
	}
	d.Fail(0)
	is(t, "Append", w.Append(nil), api.ErrIo)
	tells(t, "broken", w, 200, parts()...)
	if !w.Broken() {
		t.Errorf("it is not broken")
	}
}

// P4.5: telling is no operation of the disk, and of a dead one it is the same.
func TestTellingDoesNothing(t *testing.T) {
	w, d := filled(t)
	for range 2 {
		before := d.Copy()
		tells(t, "filled", w, 200, parts()...)
		w.Broken()
		alike(t, "told", d, before)
		d.Arm(0)
		d.Append(3, nil)
	}
}

// P4.5, R3: what is told is memory of its own: of the log, of each other, and of what is told next.
func TestToldMemory(t *testing.T) {
	w, d := filled(t)
	for _, w := range []*Wal{w, opened(t, "filled", d)} {
		snapshot, all := w.Snapshot(), w.All()
		for _, b := range append(all, snapshot) {
			_ = append(b, 1, 2, 3)
			clear(b[:cap(b)])
		}
		whole(t, "what was told is changed", w, d, 200, parts()...)
		first, second := w.Snapshot(), w.All()
		all = w.All()
		all[0], all[1] = nil, []byte{9}
		clear(w.Snapshot())
		if !bytes.Equal(first, counted(50, 5)) || !bytes.Equal(second[0], counted(1, 3)) {
			t.Errorf("two answers share memory: %v, %v", first, second)
		}
		is(t, "Append", w.Append(nil), api.OK)
		if len(second) != 3 || len(all) != 3 {
			t.Errorf("what was told grows: %v", second)
		}
		is(t, "Checkpoint", w.Checkpoint(counted(50, 5)), api.OK)
		for _, b := range records() {
			is(t, "Append", w.Append(b), api.OK)
		}
	}
}

// P4.3, P4.4, R3: what is handed in is not changed and not kept, the room behind its end neither.
func TestHandedIn(t *testing.T) {
	for _, n := range []int{0, 1, 8, 30} {
		w, d := formatted(t, 200)
		b, c := counted(1, 40), counted(101, 40)
		is(t, "Checkpoint", w.Checkpoint(b[:n]), api.OK)
		is(t, "Append", w.Append(c[:n]), api.OK)
		is(t, "Append", w.Append(c[5:5+n]), api.OK)
		if !bytes.Equal(b, counted(1, 40)) || !bytes.Equal(c, counted(101, 40)) {
			t.Errorf("%d bytes are changed: %v, %v", n, b, c)
		}
		clear(b)
		clear(c)
		whole(t, "what was handed in is changed", w, d, 200, counted(1, n), counted(101, n), counted(106, n))
		is(t, "Append", w.Append(nil), api.OK)
		whole(t, "opened", opened(t, "opened", d), d, 200, counted(1, n), counted(101, n), counted(106, n), nil)
	}
}

// P4.3, P4.4, R3: what is not taken, and what breaks the log, is not changed either.
func TestHandedInVain(t *testing.T) {
	for _, trouble := range []string{"no trouble", "it fails at 0", "it fails at 1", "the power goes at 0"} {
		for _, n := range []int{0, 20, 189, 16001} {
			b := make([]byte, n+10)
			w, d := filled(t)
			troubles(1)[trouble](d)
			w.Append(b[:n])
			w.Checkpoint(b[:n])
			if !bytes.Equal(b, make([]byte, n+10)) {
				t.Errorf("%s: %d bytes are changed", trouble, n)
			}
		}
	}
}

// R5: two logs of which the same is asked are the same, and do not touch each other.
func TestTwoLogs(t *testing.T) {
	a, d := filled(t)
	b, e := filled(t)
	alike(t, "two", d, e)
	is(t, "Append", a.Append(counted(1, 50)), api.OK)
	whole(t, "the other one", b, e, 200, parts()...)
	is(t, "Checkpoint", b.Checkpoint(nil), api.OK)
	whole(t, "the one", a, d, 200, parts(counted(1, 50))...)
}

// P4.5: two logs opened of one disk's copies have memory of their own.
func TestOpenedTwice(t *testing.T) {
	_, d := filled(t)
	disks := []*disk.Disk{d, d.Copy()}
	a, b := opened(t, "one", disks[0]), opened(t, "other", disks[1])
	is(t, "Append", a.Append([]byte{1}), api.OK)
	is(t, "Append", b.Append([]byte{2}), api.OK)
	whole(t, "one", a, disks[0], 200, parts([]byte{1})...)
	whole(t, "other", b, disks[1], 200, parts([]byte{2})...)
}
