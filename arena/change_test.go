package arena

import (
	"math"
	"slices"
	"testing"

	"quiver/api"
)

// puts holds what Put answers.
func puts(t *testing.T, a api.Arena, id uint64, v api.Version, want api.Arena, wantSlot int, wantErr api.Errno) {
	t.Helper()
	got, slot, err := Put(a, id, v)
	comes(t, got, err, want, wantErr, "Put", a, id, v)
	if slot != wantSlot {
		t.Errorf("Put(%v, %d, %v): slot %d, not %d", a, id, v, slot, wantSlot)
	}
}

// ends holds what End answers.
func ends(t *testing.T, a api.Arena, slot int, ts uint64, want api.Arena, wantErr api.Errno) {
	t.Helper()
	got, err := End(a, slot, ts)
	comes(t, got, err, want, wantErr, "End", a, slot, ts)
}

// drops holds what Drop answers.
func drops(t *testing.T, a api.Arena, l []int, want api.Arena, wantErr api.Errno) {
	t.Helper()
	got, err := Drop(a, l...)
	comes(t, got, err, want, wantErr, "Drop", a, l)
}

// P9.1 to P9.3: the chapter's examples.
func TestExamples(t *testing.T) {
	a := New()
	var slot int
	for i, c := range []api.Cell{cell(7, 1, 0, 5), cell(7, 3, 0, 6), cell(2, 1, 0, 5)} {
		var err api.Errno
		if a, slot, err = Put(a, c.Id, c.Version); slot != i || err != api.OK {
			t.Fatalf("Put(%v): %d, %d", c, slot, err)
		}
	}
	if l, err := Of(a, 7); !slices.Equal(l, []int{0, 1}) || err != api.OK {
		t.Errorf("Of(7): %v, %d", l, err)
	}
	a, err := Drop(a, 0)
	comes(t, a, err, with(laid(cell(0, 0, 0), cell(7, 3, 0, 6), cell(2, 1, 0, 5)), 0, api.Cell{}), api.OK, "Drop(0)")
	a, slot, err = Put(a, 9, version(4, 0, 1))
	comes(t, a, err, laid(cell(9, 4, 0, 1), cell(7, 3, 0, 6), cell(2, 1, 0, 5)), api.OK, "Put(9)")
	if slot != 0 || Free(a) != 93 {
		t.Errorf("%d, %d", slot, Free(a))
	}
	a, err = End(a, 1, 5)
	comes(t, a, err, laid(cell(9, 4, 0, 1), cell(7, 3, 5, 6), cell(2, 1, 0, 5)), api.OK, "End(1, 5)")
	ends(t, a, 1, 6, api.Arena{}, api.ErrArg)
	ends(t, a, 2, 1, api.Arena{}, api.ErrArg)
	ends(t, a, 50, 9, api.Arena{}, api.ErrSlot)
	l, err := ByRows(a)
	if err != api.OK || !wordedSame(l, []api.Cell{cell(2, 1, 0, 5), cell(7, 3, 5, 6), cell(9, 4, 0, 1)}) {
		t.Errorf("ByRows: %v, %d", l, err)
	}
	drops(t, a, []int{1, 1}, api.Arena{}, api.ErrSlot)
}

// P9.2: into a new one; one with a hole at the beginning, in the middle, at the end; one with the last slot alone free; one with none free.
func TestPutSlots(t *testing.T) {
	v := version(7, 9, 4, 5)
	put := api.Cell{Used: true, Id: 77, Version: v}
	all := laid(counted(slots)...)
	puts(t, New(), 77, v, laid(put), 0, api.OK)
	for n := range slots {
		puts(t, laid(counted(n)...), 77, v, with(laid(counted(n)...), n, put), n, api.OK)
		puts(t, without(all, n), 77, v, with(all, n, put), n, api.OK)
	}
	puts(t, without(all, 95), 77, v, with(all, 95, put), 95, api.OK)
	puts(t, without(all, 94, 40, 60), 77, v, with(without(all, 94, 60), 40, put), 40, api.OK)
	puts(t, with(laid(), 0, put), 77, v, laid(put, put), 1, api.OK)
	puts(t, with(laid(), 1, put), 77, v, laid(put, put), 0, api.OK)
	puts(t, all, 77, v, api.Arena{}, 0, api.ErrFull)
}

// P9.2: each Id and each version, that may be and that may not, into arenas with room and without.
func TestPutOfVersions(t *testing.T) {
	for _, a := range []api.Arena{laid(), laid(counted(50)...), without(laid(counted(slots)...), 95), laid(counted(slots)...)} {
		for _, id := range []uint64{0, 1, 7, 1 << 40, 1 << 63, math.MaxUint64} {
			for _, v := range slices.Concat(goodVersions(), badVersions()) {
				want, slot, err := wordedPut(a, id, v)
				puts(t, a, id, v, want, slot, err)
			}
		}
	}
	for _, v := range goodVersions() {
		puts(t, New(), 7, v, laid(api.Cell{Used: true, Id: 7, Version: v}), 0, api.OK)
	}
	for _, v := range badVersions() {
		puts(t, New(), 7, v, api.Arena{}, 0, api.ErrVersion)
	}
}

// P9.2: arenas of all kinds, as the chapter words it.
func TestPutIntoAll(t *testing.T) {
	for _, a := range goodArenas() {
		for _, v := range []api.Version{version(1, 0, 5), version(last-1, last, 5, 6, 7, 8), version(0, 0, 5)} {
			want, slot, err := wordedPut(a, 7, v)
			puts(t, a, 7, v, want, slot, err)
		}
	}
}

// P9.2: an End at the edges of times, written out.
func TestEndTimes(t *testing.T) {
	for _, c := range []struct {
		begin, end, ts uint64
		want           api.Errno
	}{
		{5, 0, 0, api.ErrArg}, {5, 0, 1, api.ErrArg}, {5, 0, 4, api.ErrArg}, {5, 0, 5, api.ErrArg}, {5, 0, 6, api.OK}, {5, 0, 7, api.OK},
		{5, 0, last - 1, api.OK}, {5, 0, last, api.OK}, {5, 0, last + 1, api.ErrArg}, {5, 0, 1 << 63, api.ErrArg}, {5, 0, math.MaxUint64, api.ErrArg},
		{1, 0, 0, api.ErrArg}, {1, 0, 1, api.ErrArg}, {1, 0, 2, api.OK}, {1, 0, last, api.OK}, {1, 0, last + 1, api.ErrArg},
		{last - 1, 0, last - 2, api.ErrArg}, {last - 1, 0, last - 1, api.ErrArg}, {last - 1, 0, last, api.OK}, {last - 1, 0, last + 1, api.ErrArg},
		{last, 0, 0, api.ErrArg}, {last, 0, last - 1, api.ErrArg}, {last, 0, last, api.ErrArg}, {last, 0, last + 1, api.ErrArg}, {last, 0, math.MaxUint64, api.ErrArg},
		{5, 8, 0, api.ErrArg}, {5, 8, 5, api.ErrArg}, {5, 8, 6, api.ErrArg}, {5, 8, 7, api.ErrArg}, {5, 8, 8, api.ErrArg}, {5, 8, 9, api.ErrArg},
		{5, 8, last, api.ErrArg}, {5, 8, last + 1, api.ErrArg}, {5, last, 7, api.ErrArg}, {5, last, last, api.ErrArg},
	} {
		for _, slot := range edgeSlots() {
			a := with(laid(counted(slots)...), slot, cell(7, c.begin, c.end, 5, 6))
			want := api.Arena{}
			if c.want == api.OK {
				want = with(a, slot, cell(7, c.begin, c.ts, 5, 6))
			}
			ends(t, a, slot, c.ts, want, c.want)
		}
	}
}

// P9.2: an End at slots that are none, or not used; and at all slots, as the chapter words it.
func TestEndSlots(t *testing.T) {
	all := laid(counted(slots)...)
	for _, slot := range noSlots() {
		ends(t, all, slot, 1000, api.Arena{}, api.ErrSlot)
		ends(t, New(), slot, 1000, api.Arena{}, api.ErrSlot)
		ends(t, all, slot, 0, api.Arena{}, api.ErrSlot)
	}
	for slot := range slots {
		ends(t, New(), slot, 1000, api.Arena{}, api.ErrSlot)
		ends(t, without(all, slot), slot, 1000, api.Arena{}, api.ErrSlot)
		ends(t, without(all, slot), slot, 0, api.Arena{}, api.ErrSlot)
	}
	for _, a := range goodArenas() {
		for slot := range slots {
			for _, ts := range []uint64{0, 1, 8, 100, 1000, last, last + 1} {
				want, err := wordedEnd(a, slot, ts)
				ends(t, a, slot, ts, want, err)
			}
		}
	}
}

// P9.2: slots that are dropped: none, one, several, in each order, all.
func TestDropSlots(t *testing.T) {
	all, one := laid(counted(slots)...), with(laid(), 9, cell(7, 1, 0, 5))
	drops(t, all, nil, all, api.OK)
	drops(t, all, []int{}, all, api.OK)
	drops(t, New(), nil, laid(), api.OK)
	drops(t, one, []int{9}, laid(), api.OK)
	var rising, falling []int
	for slot := range slots {
		drops(t, all, []int{slot}, without(all, slot), api.OK)
		rising, falling = append(rising, slot), append([]int{slot}, falling...)
		drops(t, all, rising, without(all, rising...), api.OK)
		drops(t, all, falling, without(all, rising...), api.OK)
	}
	drops(t, all, rising, laid(), api.OK)
	drops(t, all, falling, New(), api.OK)
	for _, l := range [][]int{{5, 3, 4}, {95, 0}, {0, 95, 47}, {64, 63, 1, 2}} {
		drops(t, all, l, without(all, l...), api.OK)
	}
	for _, a := range goodArenas() {
		l := wordedUsed(a)
		drops(t, a, l, laid(), api.OK)
		drops(t, a, l[:len(l)/2], without(a, l[:len(l)/2]...), api.OK)
	}
}

// P9.2: one among those that are dropped, at each place of them, that is none, is not used, or is there twice: nothing is dropped.
func TestDropRefused(t *testing.T) {
	all := laid(counted(slots)...)
	a := without(all, 40, 41)
	good := []int{3, 95, 0, 64}
	for _, bad := range append(noSlots(), 40, 41, 3, 95, 0, 64) {
		for place := range len(good) + 1 {
			l := slices.Insert(slices.Clone(good), place, bad)
			was := own(a)
			drops(t, a, l, api.Arena{}, api.ErrSlot)
			if !wordedSame(a.Cells, was.Cells) {
				t.Fatalf("Drop(%v): what was handed in is %v", l, a)
			}
		}
	}
	for _, slot := range noSlots() {
		drops(t, all, []int{slot}, api.Arena{}, api.ErrSlot)
		drops(t, New(), []int{slot}, api.Arena{}, api.ErrSlot)
	}
	for slot := range slots {
		drops(t, New(), []int{slot}, api.Arena{}, api.ErrSlot)
		drops(t, without(all, slot), []int{slot}, api.Arena{}, api.ErrSlot)
		drops(t, all, []int{slot, slot}, api.Arena{}, api.ErrSlot)
		drops(t, all, []int{slot, (slot + 1) % slots, slot}, api.Arena{}, api.ErrSlot)
		drops(t, without(all, slot), []int{slot, slot}, api.Arena{}, api.ErrSlot)
	}
	used := wordedUsed(all)
	drops(t, all, append(used, 7), api.Arena{}, api.ErrSlot)
	drops(t, all, append([]int{7}, used...), api.Arena{}, api.ErrSlot)
	drops(t, all, make([]int, 100000), api.Arena{}, api.ErrSlot)
}

// P9.2: rows of up to three slots of a few, as the chapter words it.
func TestDropAllOfAFew(t *testing.T) {
	a := without(laid(counted(slots)...), 2)
	rows := [][]int{nil}
	for i := 0; i < len(rows); i++ {
		want, err := wordedDrop(a, rows[i]...)
		drops(t, a, rows[i], want, err)
		if len(rows[i]) == 3 {
			continue
		}
		for _, slot := range []int{-1, 0, 1, 2, 95, 96} {
			rows = append(rows, append(slices.Clone(rows[i]), slot))
		}
	}
}

// P9.1 to P9.3: ErrArena goes ahead of all else, of arenas of each fault.
func TestOfBad(t *testing.T) {
	for _, a := range badArenas() {
		for _, v := range []api.Version{version(1, 0, 5), version(0, 0, 5)} {
			puts(t, a, 7, v, api.Arena{}, 0, api.ErrArena)
		}
		for _, slot := range []int{-1, 0, 5, 95, 96} {
			ends(t, a, slot, 1000, api.Arena{}, api.ErrArena)
			ends(t, a, slot, 0, api.Arena{}, api.ErrArena)
			drops(t, a, []int{slot}, api.Arena{}, api.ErrArena)
			drops(t, a, []int{slot, slot}, api.Arena{}, api.ErrArena)
		}
		drops(t, a, nil, api.Arena{}, api.ErrArena)
		ofs(t, a, 7, nil, api.ErrArena)
		ofs(t, a, 0, nil, api.ErrArena)
		byRows(t, a, nil, api.ErrArena)
	}
}

// P9.2: with two faults at once, and more, the one that is named first is told.
func TestOrderOfErrors(t *testing.T) {
	all, badFull := laid(counted(slots)...), with(laid(counted(slots)...), 95, api.Cell{Used: true, Id: 7})
	good, bad := version(1, 0, 5), version(1, 1, 5)
	none := api.Arena{}
	puts(t, badFull, 7, bad, none, 0, api.ErrArena)
	puts(t, badFull, 7, good, none, 0, api.ErrArena)
	puts(t, none, 7, bad, none, 0, api.ErrArena)
	puts(t, all, 7, bad, none, 0, api.ErrVersion)
	puts(t, all, 7, api.Version{}, none, 0, api.ErrVersion)
	puts(t, all, 7, good, none, 0, api.ErrFull)
	ends(t, badFull, 96, 0, none, api.ErrArena)
	ends(t, badFull, 3, 0, none, api.ErrArena)
	ends(t, New(), 96, 0, none, api.ErrSlot)
	ends(t, New(), -1, last+1, none, api.ErrSlot)
	ends(t, New(), 5, 0, none, api.ErrSlot)
	ends(t, laid(cell(7, 5, 8, 5)), 0, 0, none, api.ErrArg)
	ends(t, laid(cell(7, 5, 8, 5)), 0, last+1, none, api.ErrArg)
	drops(t, badFull, []int{96}, none, api.ErrArena)
	drops(t, badFull, []int{3, 3}, none, api.ErrArena)
	drops(t, api.Arena{Cells: counted(95)}, []int{95}, none, api.ErrArena)
}
