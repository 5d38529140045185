package wal

import (
	"slices"
	"strconv"
	"testing"

	"quiver/api"
	"quiver/disk"
)

// refusedPart holds an Append or a Checkpoint against the error by which the log does not take those bytes: nothing is done, it is broken only if it was.
func refusedPart(t *testing.T, what string, w *Wal, d *disk.Disk, take func(b []byte) api.Errno, b []byte, want api.Errno, parts ...[]byte) {
	t.Helper()
	before, broken := d.Copy(), w.Broken()
	is(t, what, take(b), want)
	alike(t, what, d, before)
	tells(t, what, w, w.Most(), parts...)
	if w.Broken() != broken {
		t.Errorf("%s: Broken %v", what, w.Broken())
	}
}

// P4.3: records of many lengths, one behind the other: what is told, what the file has, that all of it is synced, by two operations each.
func TestAppend(t *testing.T) {
	w, d := formatted(t, 3000)
	ps := [][]byte{nil}
	for n, b := range [][]byte{nil, {}, {0}, {255}, counted(1, 7), counted(1, 8), counted(1, 9), make([]byte, 12), counted(0, 256), counted(3, 1000), fileOf(64, nil), nil} {
		what := "record " + strconv.Itoa(n+1)
		ops := d.Ops()
		is(t, what, w.Append(b), api.OK)
		ps = append(ps, b)
		whole(t, what, w, d, 3000, ps...)
		if len(d.Pending()) != 0 || d.Ops() != ops+2 {
			t.Errorf("%s: Pending %v, %d operations", what, d.Pending(), d.Ops()-ops)
		}
	}
	whole(t, "opened", opened(t, "opened", d), d, 3000, ps...)
}

// P4.3: behind Open and behind Checkpoint numbers go on as they have to.
func TestAppendGoesOn(t *testing.T) {
	_, d := filled(t)
	w := opened(t, "filled", d)
	is(t, "Append", w.Append([]byte{7}), api.OK)
	whole(t, "behind Open", w, d, 200, parts([]byte{7})...)
	w = opened(t, "again", d)
	is(t, "Checkpoint", w.Checkpoint([]byte{8}), api.OK)
	is(t, "Append", w.Append([]byte{9}), api.OK)
	whole(t, "behind Checkpoint", w, d, 200, []byte{8}, []byte{9})
	whole(t, "opened", opened(t, "again", d), d, 200, []byte{8}, []byte{9})
}

// P4.3: what just costs the limit, and what costs one more; a log that is full takes nothing, no bytes neither.
func TestAppendFull(t *testing.T) {
	for _, most := range []int{64, 65, 100, 16000} {
		w, d := formatted(t, most)
		refusedPart(t, "one more", w, d, w.Append, counted(1, most-23), api.ErrFull, nil)
		b := counted(1, most-24)
		is(t, "just the limit", w.Append(b), api.OK)
		whole(t, "just the limit", w, d, most, nil, b)
		for _, more := range [][]byte{nil, {}, {1}, counted(1, most)} {
			refusedPart(t, "full", w, d, w.Append, more, api.ErrFull, nil, b)
		}
		whole(t, "opened", opened(t, "full", d), d, most, nil, b)
	}
	w, d := filled(t)
	refusedPart(t, "one more than is left", w, d, w.Append, counted(1, 124), api.ErrFull, parts()...)
	is(t, "what is left", w.Append(counted(1, 123)), api.OK)
	whole(t, "what is left", w, d, 200, parts(counted(1, 123))...)
}

// P4.3: 11 bytes are left: no record fits; 12 are left: one of no bytes does.
func TestAppendLittleLeft(t *testing.T) {
	w, d := formatted(t, 100)
	is(t, "Append", w.Append(counted(1, 65)), api.OK)
	refusedPart(t, "11 are left", w, d, w.Append, nil, api.ErrFull, nil, counted(1, 65))
	w, d = formatted(t, 100)
	is(t, "Append", w.Append(counted(1, 64)), api.OK)
	refusedPart(t, "12 are left", w, d, w.Append, []byte{1}, api.ErrFull, nil, counted(1, 64))
	is(t, "none", w.Append(nil), api.OK)
	whole(t, "full", w, d, 100, nil, counted(1, 64), nil)
}

// P4.3, P4.4: MaxTx bytes cost more than any limit; one more is too long, whatever the limit.
func TestTooLong(t *testing.T) {
	for _, most := range []int{64, 16000} {
		w, d := formatted(t, most)
		for _, take := range []func(b []byte) api.Errno{w.Append, w.Checkpoint} {
			refusedPart(t, "MaxTx", w, d, take, make([]byte, 16000), api.ErrFull, nil)
			refusedPart(t, "one more", w, d, take, make([]byte, 16001), api.ErrLong, nil)
			refusedPart(t, "many more", w, d, take, make([]byte, 1<<20), api.ErrLong, nil)
		}
		whole(t, "untouched", w, d, most, nil)
	}
}

// P4.3, P4.4: a disk that others have filled: the log is broken by its ErrFull, by that of the limit it is not.
func TestFullDisk(t *testing.T) {
	for _, c := range []struct {
		what string
		free int
		do   func(w *Wal) api.Errno
		want api.Errno
	}{
		{"Append, just room", 22, func(w *Wal) api.Errno { return w.Append(counted(1, 10)) }, api.OK},
		{"Append, one less", 21, func(w *Wal) api.Errno { return w.Append(counted(1, 10)) }, api.ErrFull},
		{"Append, no room", 0, func(w *Wal) api.Errno { return w.Append(nil) }, api.ErrFull},
		{"Checkpoint, just room", 42, func(w *Wal) api.Errno { return w.Checkpoint(counted(1, 10)) }, api.OK},
		{"Checkpoint, one less", 41, func(w *Wal) api.Errno { return w.Checkpoint(counted(1, 10)) }, api.ErrFull},
		{"Checkpoint, no room", 0, func(w *Wal) api.Errno { return w.Checkpoint(nil) }, api.ErrFull},
	} {
		w, d := filled(t)
		is(t, "filling", d.Append(2, make([]byte, d.Room()-d.Size(0)-c.free)), api.OK)
		before := d.Copy()
		is(t, c.what, c.do(w), c.want)
		if w.Broken() != (c.want != api.OK) {
			t.Errorf("%s: Broken %v", c.what, w.Broken())
		}
		if c.want == api.OK {
			whole(t, c.what, opened(t, c.what, d), d, 200, slices.Concat([][]byte{w.Snapshot()}, w.All())...)
			continue
		}
		alike(t, c.what, d, before)
		brokenLog(t, c.what, w, d)
		d.Remove(2)
		whole(t, c.what, opened(t, c.what, d), d, 200, parts()...)
	}
}

// brokenLog holds a log that was filled and is broken: it tells what it had, and answers ErrIo ahead of all other errors, with nothing done.
func brokenLog(t *testing.T, what string, w *Wal, d *disk.Disk) {
	t.Helper()
	if !w.Broken() {
		t.Errorf("%s: it is not broken", what)
	}
	tells(t, what, w, 200, parts()...)
	for _, b := range [][]byte{nil, {1}, make([]byte, 200), make([]byte, 16001)} {
		refusedPart(t, what+", Append", w, d, w.Append, b, api.ErrIo, parts()...)
		refusedPart(t, what+", Checkpoint", w, d, w.Checkpoint, b, api.ErrIo, parts()...)
	}
}

// byHandOn holds a call of a filled log against the steps by hand, whatever comes to it; then answers, of the steps that had an error, what is there behind each loss of power.
func byHandOn(t *testing.T, name string, d *disk.Disk, do func(w *Wal) api.Errno, steps []step, after ...[]byte) {
	t.Helper()
	for trouble, meet := range troubles(len(steps)) {
		what := name + ", " + trouble
		got, want := d.Copy(), d.Copy()
		w := &Wal{said: opened(t, what, d.Copy()).said, disk: got}
		meet(got)
		meet(want)
		err := byHand(want, steps)
		is(t, what, do(w), err)
		alike(t, what, got, want)
		if err == api.OK {
			whole(t, what, w, got, 200, after...)
			continue
		}
		brokenLog(t, what, w, got)
		got.Crash(nil)
		brokenLog(t, what+", behind a crash", w, got)
		is(t, "Append to one that was opened", opened(t, what, got).Append(nil), api.OK)
	}
}

// P4.3: each one operation behind the other as by hand, whatever comes to it.
func TestAppendByHand(t *testing.T) {
	_, d := filled(t)
	for _, b := range [][]byte{nil, {7}, counted(1, 30), counted(1, 123)} {
		byHandOn(t, "Append of "+strconv.Itoa(len(b)), d,
			func(w *Wal) api.Errno { return w.Append(b) },
			[]step{appends(0, frameOf(4, b)), syncs(0)},
			parts(b)...)
	}
}

// P4.3: the errors of the disk, written out.
func TestAppendErrors(t *testing.T) {
	for trouble, want := range map[string]api.Errno{
		"it fails at 0": api.ErrIo, "it fails at 1": api.ErrIo, "it fails at 2": api.OK,
		"the power goes at 0": api.ErrDead, "the power goes at 1": api.ErrDead, "the power goes at 2": api.OK,
		"both at 0": api.ErrDead, "both at 1": api.ErrDead,
	} {
		w, d := filled(t)
		troubles(2)[trouble](d)
		is(t, trouble, w.Append([]byte{1}), want)
		if w.Broken() != (want != api.OK) || w.Broken() != (w.Len() == 3) {
			t.Errorf("%s: Broken %v, Len %d", trouble, w.Broken(), w.Len())
		}
	}
	w, d := filled(t)
	d.Arm(0)
	d.Append(2, nil)
	is(t, "dead already", w.Append(nil), api.ErrDead)
	brokenLog(t, "dead already", w, d)
}

// P4.3, P4.4: on a dead disk what the log does not take anyway does not break it.
func TestRefusedAheadOfTheDisk(t *testing.T) {
	w, d := filled(t)
	d.Arm(0)
	d.Append(2, nil)
	refusedPart(t, "Append", w, d, w.Append, make([]byte, 124), api.ErrFull, parts()...)
	refusedPart(t, "Append", w, d, w.Append, make([]byte, 16001), api.ErrLong, parts()...)
	refusedPart(t, "Checkpoint", w, d, w.Checkpoint, make([]byte, 189), api.ErrFull, parts()...)
	refusedPart(t, "Checkpoint", w, d, w.Checkpoint, make([]byte, 16001), api.ErrLong, parts()...)
	d.Crash(nil)
	is(t, "Append", w.Append([]byte{1}), api.OK)
	whole(t, "the power is back", w, d, 200, parts([]byte{1})...)
}
