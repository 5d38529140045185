package wal

import (
	"strconv"
	"testing"

	"quiver/api"
)

// P4.4: snapshots of many lengths, in the place of the one ahead and of all records: what is told, what the file has, that all of it is synced, by three operations each.
func TestCheckpoint(t *testing.T) {
	w, d := formatted(t, 3000)
	for n, b := range [][]byte{nil, {}, {0}, {255}, counted(1, 7), counted(1, 8), counted(1, 9), make([]byte, 12), counted(3, 1000), fileOf(64, nil), nil} {
		what := "snapshot " + strconv.Itoa(n)
		for i := range n {
			is(t, what, w.Append(counted(i, i)), api.OK)
		}
		ops := d.Ops()
		is(t, what, w.Checkpoint(b), api.OK)
		whole(t, what, w, d, 3000, b)
		if len(d.Pending()) != 0 || d.Ops() != ops+3 {
			t.Errorf("%s: Pending %v, %d operations", what, d.Pending(), d.Ops()-ops)
		}
		whole(t, what, opened(t, what, d), d, 3000, b)
	}
}

// P4.4: what just costs the limit, and what costs one more; what the parts cost that are there does not count.
func TestCheckpointFull(t *testing.T) {
	for _, most := range []int{64, 65, 100, 16000} {
		w, d := formatted(t, most)
		full := counted(9, most-24)
		is(t, "Append", w.Append(full), api.OK)
		refusedPart(t, "one more", w, d, w.Checkpoint, counted(1, most-11), api.ErrFull, nil, full)
		refusedPart(t, "as many as the limit", w, d, w.Checkpoint, counted(1, most), api.ErrFull, nil, full)
		for _, b := range [][]byte{counted(1, most-12), counted(2, most-12), counted(1, most-13), nil, counted(3, most-12)} {
			is(t, "Checkpoint", w.Checkpoint(b), api.OK)
			whole(t, "Checkpoint", w, d, most, b)
			whole(t, "opened", opened(t, "Checkpoint", d), d, most, b)
		}
		refusedPart(t, "no room", w, d, w.Append, nil, api.ErrFull, counted(3, most-12))
	}
}

// P4.4: each one operation behind the other as by hand, whatever comes to it, with a new file that is there already and without one.
func TestCheckpointByHand(t *testing.T) {
	for _, b := range [][]byte{nil, {7}, counted(1, 30), counted(1, 188)} {
		_, d := filled(t)
		what := "Checkpoint of " + strconv.Itoa(len(b))
		do := func(w *Wal) api.Errno { return w.Checkpoint(b) }
		byHandOn(t, what, d, do, renewal(fileOf(200, b)), b)
		is(t, "a new file", d.Append(1, counted(1, 40)), api.OK)
		byHandOn(t, what+", a new file", d, do, append([]step{removes(1)}, renewal(fileOf(200, b))...), b)
	}
}

// P4.4: the errors of the disk, written out.
func TestCheckpointErrors(t *testing.T) {
	for trouble, want := range map[string]api.Errno{
		"it fails at 0": api.ErrIo, "it fails at 1": api.ErrIo, "it fails at 2": api.ErrIo, "it fails at 3": api.OK,
		"the power goes at 0": api.ErrDead, "the power goes at 1": api.ErrDead, "the power goes at 2": api.ErrDead, "the power goes at 3": api.OK,
		"both at 0": api.ErrDead, "both at 2": api.ErrDead,
	} {
		w, d := filled(t)
		troubles(3)[trouble](d)
		is(t, trouble, w.Checkpoint([]byte{1}), want)
		if w.Broken() != (want != api.OK) || w.Broken() != (w.Len() == 3) {
			t.Errorf("%s: Broken %v, Len %d", trouble, w.Broken(), w.Len())
		}
	}
	w, d := filled(t)
	d.Arm(0)
	d.Append(2, nil)
	is(t, "dead already", w.Checkpoint(nil), api.ErrDead)
	brokenLog(t, "dead already", w, d)
}

// P4.4: a new file that failed is gone behind the next Checkpoint of a log that was opened.
func TestCheckpointBehindAFailure(t *testing.T) {
	for n := range 3 {
		w, d := filled(t)
		d.Fail(n)
		is(t, "Checkpoint", w.Checkpoint([]byte{1}), api.ErrIo)
		w = opened(t, "behind it", d)
		whole(t, "behind it", w, d, 200, parts()...)
		is(t, "Checkpoint", w.Checkpoint([]byte{2}), api.OK)
		whole(t, "once more", w, d, 200, []byte{2})
	}
}
