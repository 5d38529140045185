package arena

import (
	"math"
	"slices"
	"testing"

	"quiver/api"
)

// checks holds what Check and Free answer of an arena.
func checks(t *testing.T, a api.Arena, want api.Errno, free int) {
	t.Helper()
	if err := Check(a); err != want {
		t.Errorf("Check(%v): %d, not %d", a, err, want)
	}
	if n := Free(a); n != free {
		t.Errorf("Free(%v): %d, not %d", a, n, free)
	}
}

// P9.1: a new arena has 96 cells, which are zero, all free; and memory of its own.
func TestNew(t *testing.T) {
	a, b := New(), New()
	comes(t, a, Check(a), laid(), api.OK, "New")
	if len(a.Cells) != 96 || Free(a) != 96 {
		t.Errorf("%d cells, %d free", len(a.Cells), Free(a))
	}
	a.Cells[5] = cell(7, 1, 0, 5)
	checks(t, b, api.OK, 96)
	comes(t, New(), api.OK, laid(), api.OK, "New")
}

// P9.1: how many cells there are: none, and nil, one less, one more, and others.
func TestCheckSizes(t *testing.T) {
	checks(t, api.Arena{}, api.ErrArena, 0)
	checks(t, api.Arena{Cells: []api.Cell{}}, api.ErrArena, 0)
	for n := range 300 {
		want, free := api.ErrArena, 0
		if n == 96 {
			want, free = api.OK, 96
		}
		checks(t, api.Arena{Cells: make([]api.Cell, n)}, want, free)
		checks(t, api.Arena{Cells: counted(n)}, want, 0)
	}
}

// P9.1: a cell at each slot that may not be, of which all others may.
func TestCheckCells(t *testing.T) {
	for slot := range slots {
		for _, c := range badCells() {
			if wordedCell(c) {
				t.Fatalf("%v", c)
			}
			checks(t, with(laid(), slot, c), api.ErrArena, 0)
			checks(t, with(laid(counted(slots)...), slot, c), api.ErrArena, 0)
		}
	}
}

// P9.1: a cell that is not used, written out.
func TestCheckFreeCells(t *testing.T) {
	for _, c := range []struct {
		c    api.Cell
		want api.Errno
	}{
		{api.Cell{}, api.OK},
		{api.Cell{Id: 1}, api.ErrArena},
		{api.Cell{Version: api.Version{Begin: 1}}, api.ErrArena},
		{api.Cell{Version: api.Version{End: 1}}, api.ErrArena},
		{api.Cell{Version: api.Version{Vec: []int32{0}}}, api.ErrArena},
		{api.Cell{Version: api.Version{Vec: []int32{7, 8}}}, api.ErrArena},
		{api.Cell{Version: version(1, 0, 5)}, api.ErrArena},
		{api.Cell{Id: 7, Version: version(1, 2, 5)}, api.ErrArena},
		// Nil and empty are one.
		{api.Cell{Version: api.Version{Vec: []int32{}}}, api.OK},
		{api.Cell{Version: api.Version{Vec: []int32{5}[:0]}}, api.OK},
		{api.Cell{Id: 1, Version: api.Version{Vec: []int32{}}}, api.ErrArena},
	} {
		free := 0
		if c.want == api.OK {
			free = 96
		}
		for _, slot := range edgeSlots() {
			a := laid()
			a.Cells[slot] = c.c
			checks(t, a, c.want, free)
		}
	}
}

// P9.1: a used cell at the edges of its version's times, written out; and of each vector.
func TestCheckUsedCells(t *testing.T) {
	for _, c := range []struct {
		begin, end uint64
		want       api.Errno
	}{
		{0, 0, api.ErrArena}, {0, 1, api.ErrArena}, {1, 0, api.OK}, {1, 1, api.ErrArena}, {1, 2, api.OK},
		{5, 4, api.ErrArena}, {5, 5, api.ErrArena}, {5, 6, api.OK}, {5, last, api.OK}, {5, last + 1, api.ErrArena}, {5, math.MaxUint64, api.ErrArena},
		{last - 1, 0, api.OK}, {last - 1, last, api.OK}, {last - 1, last + 1, api.ErrArena},
		{last, 0, api.OK}, {last, last, api.ErrArena}, {last, last + 1, api.ErrArena},
		{last + 1, 0, api.ErrArena}, {last + 1, last + 2, api.ErrArena}, {math.MaxUint64, 0, api.ErrArena},
	} {
		for _, id := range []uint64{0, 7, math.MaxUint64} {
			free := 0
			if c.want == api.OK {
				free = 95
			}
			checks(t, with(laid(), 9, cell(id, c.begin, c.end, 5)), c.want, free)
		}
	}
	for _, v := range goodVecs() {
		checks(t, laid(cell(7, 3, 0, v...), cell(7, 3, 4, v...)), api.OK, 94)
	}
	for _, v := range badVecs() {
		checks(t, laid(cell(7, 3, 0, v...), cell(7, 3, 4, 5)), api.ErrArena, 0)
		checks(t, laid(cell(7, 3, 0, 5), cell(7, 3, 4, v...)), api.ErrArena, 0)
	}
}

// P9.1: arenas of all kinds, as the chapter words it.
func TestCheckAndFree(t *testing.T) {
	for _, a := range goodArenas() {
		if !wordedArena(a) {
			t.Fatalf("%v", a)
		}
		checks(t, a, api.OK, wordedFree(a))
	}
	for _, a := range badArenas() {
		if wordedArena(a) {
			t.Fatalf("%v", a)
		}
		checks(t, a, api.ErrArena, 0)
	}
	for n := range slots + 1 {
		checks(t, laid(counted(n)...), api.OK, 96-n)
	}
}

// P9.1: what stands in the room behind the end is not of the arena.
func TestCheckRoom(t *testing.T) {
	a := api.Arena{Cells: append(counted(slots-1), api.Cell{}, api.Cell{Id: 5}, cell(0, 0, 0))}
	checks(t, a, api.ErrArena, 0)
	checks(t, api.Arena{Cells: a.Cells[:slots]}, api.OK, 1)
	checks(t, api.Arena{Cells: a.Cells[:slots-1]}, api.ErrArena, 0)
	checks(t, api.Arena{Cells: a.Cells[:0]}, api.ErrArena, 0)
}

// same holds what Same answers, both ways.
func same(t *testing.T, a, b api.Arena, want bool) {
	t.Helper()
	if Same(a, b) != want || Same(b, a) != want {
		t.Errorf("Same(%v, %v): not %v", a, b, want)
	}
}

// P9.1: each arena is the same as itself, and as one with memory of its own; whether it may be or not.
func TestSameAsItself(t *testing.T) {
	for _, a := range slices.Concat(goodArenas(), badArenas()) {
		same(t, a, a, true)
		same(t, a, own(a), true)
	}
	same(t, api.Arena{}, api.Arena{Cells: []api.Cell{}}, true)
	empty := laid()
	empty.Cells[5].Version.Vec = []int32{}
	same(t, empty, New(), true)
}

// P9.1: arenas that differ in one slot, each one, by Used, by Id, by one field of the version, by one component.
func TestSameButForOne(t *testing.T) {
	for _, a := range []api.Arena{laid(counted(slots)...), without(laid(counted(slots)...), 3, 50, 95), laid()} {
		for slot := range slots {
			for _, change := range []func(c *api.Cell){
				func(c *api.Cell) { c.Used = !c.Used },
				func(c *api.Cell) { c.Id++ },
				func(c *api.Cell) { c.Id += 1 << 63 },
				func(c *api.Cell) { c.Version.Begin++ },
				func(c *api.Cell) { c.Version.Begin += 1 << 40 },
				func(c *api.Cell) { c.Version.End++ },
				func(c *api.Cell) { c.Version.End += 1 << 63 },
				func(c *api.Cell) { c.Version.Vec = append(c.Version.Vec, 0) },
			} {
				b := own(a)
				change(&b.Cells[slot])
				same(t, a, b, false)
			}
			for component := range a.Cells[slot].Version.Vec {
				b := own(a)
				b.Cells[slot].Version.Vec[component]++
				same(t, a, b, false)
				b.Cells[slot].Version.Vec = a.Cells[slot].Version.Vec[:component]
				same(t, a, b, false)
			}
		}
	}
}

// P9.1: the same cells in other slots; another number of cells; and arenas that may not be, which differ.
func TestSameNot(t *testing.T) {
	all := laid(counted(slots)...)
	swapped := own(all)
	swapped.Cells[3], swapped.Cells[4] = all.Cells[4], all.Cells[3]
	same(t, all, swapped, false)
	same(t, with(laid(), 3, cell(7, 1, 0, 5)), with(laid(), 4, cell(7, 1, 0, 5)), false)
	for n := range slots + 5 {
		for _, l := range [][]api.Cell{make([]api.Cell, n), counted(n)} {
			same(t, api.Arena{Cells: l}, New(), n == slots && !l[0].Used)
			same(t, api.Arena{Cells: l}, all, n == slots && l[0].Used)
			same(t, api.Arena{Cells: l}, api.Arena{Cells: append(ownCells(l), api.Cell{})}, false)
		}
	}
	same(t, api.Arena{}, New(), false)
	bad := []api.Arena{{}, {Cells: counted(5)}, {Cells: counted(6)}, {Cells: make([]api.Cell, 5)}, {Cells: counted(97)}}
	for _, c := range badCells() {
		bad = append(bad, with(laid(), 9, c))
	}
	for _, a := range bad {
		for _, b := range bad {
			same(t, a, b, wordedSame(a.Cells, b.Cells))
		}
	}
}
