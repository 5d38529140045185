package flat

import (
	"math"
	"testing"

	"quiver/api"
)

// P11.4: around Begin and around End, written out.
func TestVisible(t *testing.T) {
	for _, c := range []struct {
		begin, end, t uint64
		want          bool
	}{
		{3, 0, 0, false}, {3, 0, 2, false}, {3, 0, 3, true}, {3, 0, 4, true}, {3, 0, last, true}, {3, 0, last + 1, true}, {3, 0, math.MaxUint64, true},
		{3, 7, 0, false}, {3, 7, 2, false}, {3, 7, 3, true}, {3, 7, 6, true}, {3, 7, 7, false}, {3, 7, 8, false}, {3, 7, last, false}, {3, 7, math.MaxUint64, false},
		{1, 0, 0, false}, {1, 0, 1, true}, {1, 2, 0, false}, {1, 2, 1, true}, {1, 2, 2, false},
		{last, 0, last - 1, false}, {last, 0, last, true}, {last, 0, math.MaxUint64, true},
		{last - 1, last, last - 2, false}, {last - 1, last, last - 1, true}, {last - 1, last, last, false},
		{3, last, last - 1, true}, {3, last, last, false},
		// What counts is more than the lowest bits.
		{3, 7, 1<<32 + 5, false}, {1<<32 + 3, 0, 5, false}, {3, 1<<32 + 4, 9, true}, {3, 0, 1 << 63, true},
	} {
		for _, slot := range edgeSlots() {
			want := api.Mask{}
			if c.want {
				want = maskOf(slot)
			}
			sees(t, with(laid(), slot, cell(7, c.begin, c.end, 5)), c.t, want, api.OK)
		}
	}
}

// P11.4: arenas of all kinds, at all times around theirs, as the chapter words it.
func TestVisibleAtAllTimes(t *testing.T) {
	seen := 0
	for _, a := range goodArenas() {
		times := []uint64{0, last - 1, last, last + 1, 1 << 63, math.MaxUint64}
		for ts := range uint64(45) {
			times = append(times, ts)
		}
		for _, ts := range times {
			want, err := wordedVisible(a, ts)
			sees(t, a, ts, want, err)
			if want != (api.Mask{}) {
				seen++
			}
		}
	}
	if seen < 1000 {
		t.Errorf("something was visible just %d times", seen)
	}
}

// P11.4: no cell is used, some are, all are; of no dimension, of several.
func TestVisibleCells(t *testing.T) {
	all := laid()
	for slot := range slots {
		all.Cells[slot] = cell(7, 3, 9, []int32{1, 2, 3, 4}[:1+slot%4]...)
	}
	for _, ts := range []uint64{0, 2, 3, 8, 9, math.MaxUint64} {
		sees(t, laid(), ts, api.Mask{}, api.OK)
		inside := ts == 3 || ts == 8
		for slot := range slots {
			one, others := api.Mask{}, api.Mask{}
			if inside {
				one, others = maskOf(slot), maskOf(spread(0, slots, 1)...)
				others[slot/64] &^= one[slot/64]
			}
			sees(t, thinned(all, slot), ts, one, api.OK)
			sees(t, with(all, slot, api.Cell{}), ts, others, api.OK)
		}
	}
	sees(t, all, 5, api.Mask{math.MaxUint64, math.MaxUint32}, api.OK)
}

// P11.4: each slot is seen for itself: each cell of the arena begins and ends at a time of its own.
func TestVisibleOneByOne(t *testing.T) {
	a := laid()
	for slot := range slots {
		a.Cells[slot] = cell(7, uint64(10+slot), uint64(12+slot), 5)
	}
	for slot := range slots {
		sees(t, a, uint64(10+slot), maskOf(max(slot-1, 0), slot), api.OK)
	}
	sees(t, a, 9, api.Mask{}, api.OK)
	sees(t, a, 106, maskOf(95), api.OK)
	sees(t, a, 107, api.Mask{}, api.OK)
}

// P11.4: arenas that may not be, at all times.
func TestVisibleOfBadArenas(t *testing.T) {
	for _, a := range badArenas() {
		for _, ts := range []uint64{0, 1, 3, last, math.MaxUint64} {
			sees(t, a, ts, api.Mask{}, api.ErrArena)
		}
	}
}
