package arena

import (
	"math"
	"slices"
	"testing"

	"quiver/api"
)

// Here stands what the chapter says, once more and as plainly as it does, with what is asked of all calls.

const (
	last  = 1099511627776 // the greatest time of a version
	slots = 96            // how many there are
	most  = 1073741823    // the greatest component
	least = -most
)

func version(begin, end uint64, v ...int32) api.Version {
	return api.Version{Begin: begin, End: end, Vec: v}
}

// cell is a used one.
func cell(id, begin, end uint64, v ...int32) api.Cell {
	return api.Cell{Used: true, Id: id, Version: version(begin, end, v...)}
}

// laid is an arena with these cells in the first slots.
func laid(l ...api.Cell) api.Arena {
	a := api.Arena{Cells: make([]api.Cell, slots)}
	copy(a.Cells, l)
	return own(a)
}

// with is the arena with another cell in a slot.
func with(a api.Arena, slot int, c api.Cell) api.Arena {
	b := own(a)
	b.Cells[slot] = c
	return own(b)
}

// without is the arena in which these slots are free.
func without(a api.Arena, free ...int) api.Arena {
	b := own(a)
	for _, slot := range free {
		b.Cells[slot] = api.Cell{}
	}
	return b
}

// counted are n cells of unlike Ids, times and dimensions, of which some have the same Id, and the same Begin.
func counted(n int) []api.Cell {
	var l []api.Cell
	for i := range n {
		begin := uint64(1 + i*37%11)
		end := uint64(i%3) * (begin + uint64(i))
		l = append(l, cell(uint64(i*5%7), begin, end, []int32{int32(i), -8, 9, -10}[:1+i%4]...))
	}
	return ownCells(l)
}

// own is a with memory of its own.
func own(a api.Arena) api.Arena {
	return api.Arena{Cells: ownCells(a.Cells)}
}

func ownCells(l []api.Cell) []api.Cell {
	m := slices.Clone(l)
	for i := range m {
		m[i].Version.Vec = slices.Clone(m[i].Version.Vec)
	}
	return m
}

func wordedVec(v []int32) bool {
	tooFar := func(component int32) bool { return component < least || component > most }
	return len(v) >= 1 && len(v) <= 4 && !slices.ContainsFunc(v, tooFar)
}

func wordedVersion(v api.Version) bool {
	ends := v.End == 0 || v.End > v.Begin && v.End <= last
	return v.Begin >= 1 && v.Begin <= last && ends && wordedVec(v.Vec)
}

func wordedCell(c api.Cell) bool {
	if c.Used {
		return wordedVersion(c.Version)
	}
	return c.Id == 0 && c.Version.Begin == 0 && c.Version.End == 0 && len(c.Version.Vec) == 0
}

func wordedArena(a api.Arena) bool {
	if len(a.Cells) != slots {
		return false
	}
	for _, c := range a.Cells {
		if !wordedCell(c) {
			return false
		}
	}
	return true
}

func wordedSame(a, b []api.Cell) bool {
	if len(a) != len(b) {
		return false
	}
	for i := range a {
		v, w := a[i].Version, b[i].Version
		if a[i].Used != b[i].Used || a[i].Id != b[i].Id || v.Begin != w.Begin || v.End != w.End || !slices.Equal(v.Vec, w.Vec) {
			return false
		}
	}
	return true
}

// wordedUsed are the slots of the used cells, rising.
func wordedUsed(a api.Arena) []int {
	var l []int
	for slot, c := range a.Cells {
		if c.Used {
			l = append(l, slot)
		}
	}
	return l
}

func wordedFree(a api.Arena) int {
	if !wordedArena(a) {
		return 0
	}
	return slots - len(wordedUsed(a))
}

func wordedPut(a api.Arena, id uint64, v api.Version) (api.Arena, int, api.Errno) {
	switch {
	case !wordedArena(a):
		return api.Arena{}, 0, api.ErrArena
	case !wordedVersion(v):
		return api.Arena{}, 0, api.ErrVersion
	}
	for slot := range slots {
		if !a.Cells[slot].Used {
			return with(a, slot, api.Cell{Used: true, Id: id, Version: v}), slot, api.OK
		}
	}
	return api.Arena{}, 0, api.ErrFull
}

func wordedEnd(a api.Arena, slot int, ts uint64) (api.Arena, api.Errno) {
	switch {
	case !wordedArena(a):
		return api.Arena{}, api.ErrArena
	case slot < 0, slot >= slots, !a.Cells[slot].Used:
		return api.Arena{}, api.ErrSlot
	case a.Cells[slot].Version.End != 0, ts <= a.Cells[slot].Version.Begin, ts > last:
		return api.Arena{}, api.ErrArg
	}
	b := own(a)
	b.Cells[slot].Version.End = ts
	return b, api.OK
}

func wordedDrop(a api.Arena, l ...int) (api.Arena, api.Errno) {
	if !wordedArena(a) {
		return api.Arena{}, api.ErrArena
	}
	for i, slot := range l {
		if slot < 0 || slot >= slots || !a.Cells[slot].Used || slices.Contains(l[:i], slot) {
			return api.Arena{}, api.ErrSlot
		}
	}
	return without(a, l...), api.OK
}

// ahead tells whether the used cell in the slot x stands ahead of that in y, by rows.
func ahead(a api.Arena, x, y int) bool {
	c, d := a.Cells[x], a.Cells[y]
	switch {
	case c.Id != d.Id:
		return c.Id < d.Id
	case c.Version.Begin != d.Version.Begin:
		return c.Version.Begin < d.Version.Begin
	}
	return x < y
}

// wordedByRows are the slots of the used cells by rows: each one's place is how many stand ahead of it.
func wordedByRows(a api.Arena) []int {
	of := wordedUsed(a)
	l := make([]int, len(of))
	for _, y := range of {
		place := 0
		for _, x := range of {
			if ahead(a, x, y) {
				place++
			}
		}
		l[place] = y
	}
	return l
}

func wordedOf(a api.Arena, id uint64) []int {
	return slices.DeleteFunc(wordedByRows(a), func(slot int) bool { return a.Cells[slot].Id != id })
}

func cellsAt(a api.Arena, l []int) []api.Cell {
	var m []api.Cell
	for _, slot := range l {
		m = append(m, a.Cells[slot])
	}
	return m
}

func wordedPacked(l []api.Cell) (api.Arena, api.Errno) {
	if len(l) > slots {
		return api.Arena{}, api.ErrFull
	}
	for _, c := range l {
		if !c.Used || !wordedVersion(c.Version) {
			return api.Arena{}, api.ErrArg
		}
	}
	return laid(l...), api.OK
}

// goodVecs are vectors that may be: of each dimension, with the utmost components at each place.
func goodVecs() [][]int32 {
	var l [][]int32
	for dim := 1; dim <= 4; dim++ {
		l = append(l, []int32{7, -8, 9, -10}[:dim], make([]int32, dim))
		for place := range dim {
			for _, component := range []int32{most, least} {
				v := make([]int32, dim)
				v[place] = component
				l = append(l, v)
			}
		}
	}
	return l
}

// badVecs are vectors that may not be: of no components, of too many, and with one beyond the bounds at each place.
func badVecs() [][]int32 {
	l := [][]int32{nil, {}, {1, 2, 3, 4, 5}, make([]int32, 256), make([]int32, 257)}
	for dim := 1; dim <= 4; dim++ {
		for place := range dim {
			for _, component := range []int32{most + 1, least - 1, math.MaxInt32, math.MinInt32} {
				v := make([]int32, dim)
				v[place] = component
				l = append(l, v)
			}
		}
	}
	return l
}

// goodVersions are versions that may be: of each vector, and with times around the utmost ones.
func goodVersions() []api.Version {
	l := []api.Version{version(1, 0, 5), version(1, 2, 5), version(1, last, 5), version(7, 8, 5), version(last-1, 0, 5), version(last-1, last, 5), version(last, 0, 5)}
	for _, v := range goodVecs() {
		l = append(l, version(3, 0, v...), version(3, 9, v...))
	}
	return l
}

// badVersions are versions that may not be, by one fault each.
func badVersions() []api.Version {
	l := []api.Version{
		version(0, 0, 5), version(0, 1, 5), version(0, last, 5),
		version(1, 1, 5), version(7, 7, 5), version(7, 6, 5), version(7, 1, 5), version(last, last, 5), version(last, last-1, 5), version(last, 1, 5),
		version(1, last+1, 5), version(last, last+1, 5), version(7, 1<<63, 5), version(7, math.MaxUint64, 5),
		version(last+1, 0, 5), version(last+1, last+2, 5), version(1<<63, 0, 5), version(math.MaxUint64, 0, 5), version(math.MaxUint64, last, 5),
	}
	for _, v := range badVecs() {
		l = append(l, version(3, 0, v...), version(3, 9, v...))
	}
	return append(l, api.Version{})
}

// edgeSlots are the first and the last ones, and some around the middle and where words of bits would end.
func edgeSlots() []int {
	return []int{0, 1, 2, 47, 48, 63, 64, 94, 95}
}

// noSlots are no slots.
func noSlots() []int {
	return []int{math.MinInt, math.MinInt32, -97, -96, -95, -2, -1, 96, 97, 128, 192, 255, 256, 257, math.MaxInt32, math.MaxInt}
}

// goodArenas are arenas that may be: with none used, all, so many at the beginning, all but one and just one, every other one; and with utmost cells.
func goodArenas() []api.Arena {
	all := laid(counted(slots)...)
	l := []api.Arena{laid(), all}
	for _, n := range []int{1, 2, 3, 10, 47, 94, 95} {
		l = append(l, laid(counted(n)...))
	}
	for _, slot := range edgeSlots() {
		l = append(l, without(all, slot), with(laid(), slot, cell(uint64(slot), 7, 0, 5)))
	}
	var even, high []int
	for slot := range slots {
		if slot%2 == 0 {
			even = append(even, slot)
		}
		if slot >= 64 {
			high = append(high, slot)
		}
	}
	l = append(l, without(all, even...), without(all, high...), without(all, 3, 50, 90))
	falling := laid()
	for slot := range slots {
		falling.Cells[slot] = cell(uint64(slots-slot)/4, uint64(200-slot), 0, int32(slot))
	}
	equal := laid()
	for slot := range slots {
		equal.Cells[slot] = cell(7, 3, 0, int32(slot))
	}
	l = append(l, falling, equal, without(falling, 0, 1, 95), without(equal, 30, 31, 32))
	var utmost []api.Cell
	for i, v := range goodVersions() {
		id := []uint64{0, 1, 1 << 32, 1 << 63, math.MaxUint64}[i%5]
		utmost = append(utmost, api.Cell{Used: true, Id: id, Version: v})
	}
	emptied := laid(counted(10)...)
	emptied.Cells[40].Version.Vec = []int32{}
	return append(l, laid(utmost...), emptied)
}

// badArenas are arenas that may not be: of another number of cells, and with one cell, at each of some slots, that has one fault.
func badArenas() []api.Arena {
	l := []api.Arena{{}, {Cells: []api.Cell{}}}
	for _, n := range []int{1, 2, 64, slots - 1, slots + 1, 2 * slots, 256, 256 + slots, 5000} {
		l = append(l, api.Arena{Cells: make([]api.Cell, n)}, api.Arena{Cells: counted(n)})
	}
	for _, slot := range edgeSlots() {
		for _, a := range []api.Arena{laid(), laid(counted(slots)...)} {
			for _, c := range badCells() {
				l = append(l, with(a, slot, c))
			}
		}
	}
	return l
}

// badCells are cells that may not be: ones that are not used and have something, and used ones with a version that may not be.
func badCells() []api.Cell {
	free := func(id uint64, v api.Version) api.Cell { return api.Cell{Id: id, Version: v} }
	l := []api.Cell{
		free(1, api.Version{}), free(math.MaxUint64, api.Version{}), free(1<<63, api.Version{}),
		free(0, version(1, 0)), free(0, version(last, 0)), free(0, version(1<<32, 0)), free(0, version(0, 1)), free(0, version(0, 1<<63)),
		free(0, version(0, 0, 0)), free(0, version(0, 0, 1)), free(0, version(0, 0, 0, 0, 0, 0, 0)),
		free(7, version(3, 5, 1, 2)), free(0, version(3, 0, 1)),
	}
	for _, v := range badVersions() {
		l = append(l, api.Cell{Used: true, Id: 7, Version: v}, api.Cell{Used: true, Version: v})
	}
	return l
}

// comes holds an arena that is answered, and the error, against what has to come of a call.
func comes(t *testing.T, got api.Arena, err api.Errno, want api.Arena, wantErr api.Errno, call ...any) {
	t.Helper()
	if err != wantErr || !wordedSame(got.Cells, want.Cells) {
		t.Errorf("%v: %v, %d, not %v, %d", call, got, err, want, wantErr)
	}
	if err == api.OK && !wordedArena(got) {
		t.Errorf("%v: %v may not be", call, got)
	}
}
