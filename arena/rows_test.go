package arena

import (
	"math"
	"slices"
	"testing"

	"quiver/api"
)

// ofs holds what Of answers.
func ofs(t *testing.T, a api.Arena, id uint64, want []int, wantErr api.Errno) {
	t.Helper()
	if got, err := Of(a, id); err != wantErr || !slices.Equal(got, want) {
		t.Errorf("Of(%v, %d): %v, %d, not %v, %d", a, id, got, err, want, wantErr)
	}
}

// byRows holds what ByRows answers.
func byRows(t *testing.T, a api.Arena, want []api.Cell, wantErr api.Errno) {
	t.Helper()
	if got, err := ByRows(a); err != wantErr || !wordedSame(got, want) {
		t.Errorf("ByRows(%v): %v, %d, not %v, %d", a, got, err, want, wantErr)
	}
}

// packs holds what Packed answers.
func packs(t *testing.T, l []api.Cell, want api.Arena, wantErr api.Errno) {
	t.Helper()
	got, err := Packed(l)
	comes(t, got, err, want, wantErr, "Packed", l)
}

// mixed is an arena in which row 7 stands with Begins in another order than its slots, row 2 with the same Begin thrice, and rows 0 and 9 once.
func mixed() api.Arena {
	a := laid()
	for slot, c := range []api.Cell{
		cell(7, 9, 0, 1), cell(2, 4, 5, 2), {}, cell(7, 3, 5, 3), cell(0, 8, 0, 4), cell(2, 4, 0, 5), cell(7, 5, 9, 6), cell(9, 1, 0, 7),
	} {
		a.Cells[slot] = c
	}
	a.Cells[90], a.Cells[95] = cell(2, 4, 9, 8), cell(7, 1, 2, 9)
	return a
}

// P9.3: the slots of a row: of one that no cell has, of one, of several with the same Begin, and with Begins in another order.
func TestOf(t *testing.T) {
	ofs(t, mixed(), 7, []int{95, 3, 6, 0}, api.OK)
	ofs(t, mixed(), 2, []int{1, 5, 90}, api.OK)
	ofs(t, mixed(), 0, []int{4}, api.OK)
	ofs(t, mixed(), 9, []int{7}, api.OK)
	for _, id := range []uint64{1, 3, 6, 8, 10, 7 + 1<<32, 1 << 63, 7 + 1<<63, math.MaxUint64} {
		ofs(t, mixed(), id, nil, api.OK)
	}
	// A cell that is not used has the Id 0, and is no row's.
	ofs(t, New(), 0, nil, api.OK)
	ofs(t, laid(counted(1)...), 0, []int{0}, api.OK)
	ofs(t, with(laid(), 95, cell(math.MaxUint64, last, 0, 5)), math.MaxUint64, []int{95}, api.OK)
	same := laid()
	for slot := range slots {
		same.Cells[slot] = cell(7, 3, 0, int32(slot))
	}
	var rising, falling []int
	for slot := range slots {
		rising, falling = append(rising, slot), append([]int{slot}, falling...)
	}
	ofs(t, same, 7, rising, api.OK)
	for slot := range slots {
		same.Cells[slot] = cell(7, uint64(last-slot), 0, int32(slot))
	}
	ofs(t, same, 7, falling, api.OK)
}

// P9.3: arenas of all kinds, each Id that is there and others, as the chapter words it.
func TestOfAll(t *testing.T) {
	for _, a := range append(goodArenas(), mixed()) {
		ids := []uint64{0, 1, 2, 50, 96, 1 << 32, 1 << 63, math.MaxUint64}
		for _, c := range a.Cells {
			ids = append(ids, c.Id)
		}
		for _, id := range ids {
			ofs(t, a, id, wordedOf(a, id), api.OK)
		}
		byRows(t, a, cellsAt(a, wordedByRows(a)), api.OK)
	}
}

// P9.3: cells by rows: of none, of one, of several with the same Id and Begin, of all.
func TestByRows(t *testing.T) {
	byRows(t, New(), nil, api.OK)
	byRows(t, with(laid(), 95, cell(7, 3, 0, 5)), []api.Cell{cell(7, 3, 0, 5)}, api.OK)
	byRows(t, mixed(), []api.Cell{
		cell(0, 8, 0, 4), cell(2, 4, 5, 2), cell(2, 4, 0, 5), cell(2, 4, 9, 8), cell(7, 1, 2, 9), cell(7, 3, 5, 3), cell(7, 5, 9, 6), cell(7, 9, 0, 1), cell(9, 1, 0, 7),
	}, api.OK)
	// The End and the vector do not count: what has the same Id and Begin stands by slot.
	byRows(t, laid(cell(7, 3, 9, 9), cell(7, 3, 8, 8), cell(7, 3, 0, 10)), []api.Cell{cell(7, 3, 9, 9), cell(7, 3, 8, 8), cell(7, 3, 0, 10)}, api.OK)
	byRows(t, laid(cell(math.MaxUint64, 1, 0, 1), cell(1<<63, 2, 0, 2), cell(0, last, 0, 3), cell(1<<63-1, 4, 0, 4)),
		[]api.Cell{cell(0, last, 0, 3), cell(1<<63-1, 4, 0, 4), cell(1<<63, 2, 0, 2), cell(math.MaxUint64, 1, 0, 1)}, api.OK)
	equal, turned := laid(), laid()
	for slot := range slots {
		equal.Cells[slot] = cell(7, 3, 0, int32(slot))
		turned.Cells[slots-1-slot] = cell(uint64(slot/2), uint64(slot+1), 0, int32(slot))
	}
	byRows(t, equal, equal.Cells, api.OK)
	upright := slices.Clone(turned.Cells)
	slices.Reverse(upright)
	byRows(t, turned, upright, api.OK)
}

// P9.3: so many cells, from none to more than there are slots, in their order.
func TestPackedOfMany(t *testing.T) {
	packs(t, nil, laid(), api.OK)
	packs(t, []api.Cell{}, laid(), api.OK)
	for n := range slots + 1 {
		packs(t, counted(n), laid(counted(n)...), api.OK)
	}
	for _, n := range []int{97, 98, 192, 256, 256 + 5, 5000} {
		packs(t, counted(n), api.Arena{}, api.ErrFull)
	}
	packs(t, counted(100)[:96], laid(counted(96)...), api.OK)
	order := []api.Cell{cell(9, 5, 0, 1), cell(2, 7, 0, 1, 2), cell(9, 5, 0, 1), cell(9, 1, 2, 3), cell(0, 1, 0, 4)}
	packs(t, order, laid(order...), api.OK)
	packs(t, order[1:3], laid(order[1:3]...), api.OK)
}

// P9.3: one cell, at each place, that is not used, or whose version may not be.
func TestPackedOfBad(t *testing.T) {
	bad := append(badCells(), api.Cell{}, api.Cell{Id: 7, Version: version(1, 0, 5)}, api.Cell{Version: api.Version{Vec: []int32{}}})
	for _, n := range []int{1, 2, 5, slots - 1, slots} {
		for _, place := range []int{0, 1, n / 2, n - 1} {
			for _, c := range bad {
				l := counted(n)
				l[min(place, n-1)] = c
				packs(t, l, api.Arena{}, api.ErrArg)
				if _, err := wordedPacked(l); err != api.ErrArg {
					t.Errorf("the words say %d", err)
				}
			}
		}
	}
	for _, v := range goodVersions() {
		packs(t, []api.Cell{{Used: true, Id: 7, Version: v}}, laid(api.Cell{Used: true, Id: 7, Version: v}), api.OK)
	}
}

// P9.3: too many, of which one is not used, or its version may not be: that there are too many is told first.
func TestPackedOrderOfErrors(t *testing.T) {
	for _, n := range []int{slots + 1, 200} {
		for _, place := range []int{0, 50, slots - 1, slots, n - 1} {
			for _, c := range badCells() {
				l := counted(n)
				l[place] = c
				packs(t, l, api.Arena{}, api.ErrFull)
			}
		}
		packs(t, make([]api.Cell, n), api.Arena{}, api.ErrFull)
	}
	packs(t, make([]api.Cell, slots), api.Arena{}, api.ErrArg)
	packs(t, make([]api.Cell, 1), api.Arena{}, api.ErrArg)
}
