package arena

import (
	"slices"
	"testing"

	"quiver/api"
)

// P9.4: what was put is there, no other cell is changed, slot by slot; dropped again it leaves what was.
func TestBehindPut(t *testing.T) {
	for _, a := range goodArenas() {
		for _, c := range []api.Cell{cell(7, 3, 0, 5), cell(0, last, 0, 1, 2, 3, 4)} {
			put, slot, err := Put(a, c.Id, c.Version)
			if err == api.ErrFull && wordedFree(a) == 0 {
				continue
			}
			if err != api.OK || a.Cells[slot].Used {
				t.Fatalf("Put(%v): %d, %d", a, slot, err)
			}
			for i := range slots {
				want := a.Cells[i]
				if i == slot {
					want = c
				}
				if !wordedSame([]api.Cell{put.Cells[i]}, []api.Cell{want}) {
					t.Errorf("Put(%v) at %d: %v at %d", a, slot, put.Cells[i], i)
				}
			}
			if Free(put) != Free(a)-1 {
				t.Errorf("%d free behind %d", Free(put), Free(a))
			}
			of, _ := Of(put, c.Id)
			was, _ := Of(a, c.Id)
			if !slices.Contains(of, slot) || len(of) != len(was)+1 {
				t.Errorf("Of: %v behind %v, put at %d", of, was, slot)
			}
			dropped, err := Drop(put, slot)
			comes(t, dropped, err, a, api.OK, "Drop", slot)
			if !Same(dropped, a) {
				t.Errorf("%v, not %v", dropped, a)
			}
		}
	}
}

// P9.4: what ends is in its slot as it was, but for its End; no other cell is changed.
func TestBehindEnd(t *testing.T) {
	for _, a := range goodArenas() {
		for slot := range slots {
			ended, err := End(a, slot, last)
			if err != api.OK {
				continue
			}
			for i, c := range ended.Cells {
				want := a.Cells[i]
				if i == slot {
					want.Version.End = last
				}
				if !wordedSame([]api.Cell{c}, []api.Cell{want}) {
					t.Errorf("End(%v, %d): %v at %d", a, slot, c, i)
				}
			}
			if Free(ended) != Free(a) {
				t.Errorf("%d free, not %d", Free(ended), Free(a))
			}
			again, err := End(ended, slot, last)
			comes(t, again, err, api.Arena{}, api.ErrArg, "End", slot)
		}
	}
}

// P9.4: as many are free as Put is not refused; and they are taken the least one first.
func TestFreeIsHowManyPuts(t *testing.T) {
	for _, a := range goodArenas() {
		free, count, b, before := Free(a), 0, a, -1
		for {
			next, slot, err := Put(b, 7, version(3, 0, 5))
			if err != api.OK {
				comes(t, next, err, api.Arena{}, api.ErrFull, "Put")
				break
			}
			if slot <= before || Free(next) != free-count-1 {
				t.Errorf("%d behind %d, %d free", slot, before, Free(next))
			}
			b, before = next, slot
			count++
		}
		if count != free || Free(b) != 0 {
			t.Errorf("%d puts, %d free", count, free)
		}
	}
}

// P9.4: Packed of ByRows has the same cells by rows, in the first slots; packed again it is the same.
func TestPackedByRows(t *testing.T) {
	for _, a := range append(goodArenas(), mixed()) {
		l, err := ByRows(a)
		if err != api.OK || len(l) != slots-Free(a) {
			t.Fatalf("%v, %d", l, err)
		}
		p, err := Packed(l)
		comes(t, p, err, laid(l...), api.OK, "Packed", l)
		byRows(t, p, l, api.OK)
		if Free(p) != Free(a) {
			t.Errorf("%d free, not %d", Free(p), Free(a))
		}
		for i, c := range l {
			if slices.Index(wordedOf(p, c.Id), i) < 0 {
				t.Errorf("%v is not at %d", c, i)
			}
			was, _ := Of(a, c.Id)
			is, _ := Of(p, c.Id)
			if !wordedSame(cellsAt(a, was), cellsAt(p, is)) {
				t.Errorf("Of(%d): %v, not %v", c.Id, is, was)
			}
		}
	}
}

// P9.4: a long life, held slot by slot against what the chapter says of each call.
func TestLongLife(t *testing.T) {
	seed := uint64(9)
	next := func(bound int) int {
		seed = seed*6364136223846793005 + 1442695040888963407
		return int(seed >> 33 % uint64(bound))
	}
	a, want := New(), laid()
	fulls, refused := 0, 0
	for step := range 4000 {
		var b, wanted api.Arena
		var err, wantErr api.Errno
		switch next(7) {
		case 0, 1, 2, 3:
			var slot, wantSlot int
			id, v := uint64(next(12)), version(uint64(next(40)), 0, int32(step), int32(-step))
			b, slot, err = Put(a, id, v)
			wanted, wantSlot, wantErr = wordedPut(want, id, v)
			if slot != wantSlot {
				t.Fatalf("slot %d, not %d", slot, wantSlot)
			}
		case 4, 5:
			slot, ts := next(slots+2)-1, uint64(next(60))
			b, err = End(a, slot, ts)
			wanted, wantErr = wordedEnd(want, slot, ts)
		default:
			l := make([]int, next(4))
			for i := range l {
				l[i] = next(slots + 1)
			}
			b, err = Drop(a, l...)
			wanted, wantErr = wordedDrop(want, l...)
		}
		comes(t, b, err, wanted, wantErr, step)
		switch err {
		case api.OK:
			a, want = b, wanted
		case api.ErrFull:
			fulls++
			a, want = laid(), laid()
		default:
			refused++
		}
		checks(t, a, api.OK, wordedFree(want))
		ofs(t, a, uint64(step%12), wordedOf(want, uint64(step%12)), api.OK)
		byRows(t, a, cellsAt(want, wordedByRows(want)), api.OK)
	}
	if fulls < 3 || refused < 300 {
		t.Errorf("just %d full, %d refused", fulls, refused)
	}
}

// behind are cells, and behind their end, and behind those of their vectors, there is room in which something stands.
func behind(l []api.Cell) []api.Cell {
	m := slices.Concat(l, []api.Cell{cell(9, 9, 0, 9), cell(8, 8, 0, 8)})
	for i := range m {
		m[i].Version.Vec = roomy(m[i].Version.Vec)
	}
	return m[:len(l)]
}

func roomy(v []int32) []int32 {
	return slices.Concat(v, []int32{99, 98, 97})[:len(v)]
}

// whole is all that stands in what behind made, and behind its ends, for later.
func whole(l []api.Cell) []api.Cell {
	m := slices.Clone(l[:len(l)+2])
	for i := range m {
		v := m[i].Version.Vec
		m[i].Version.Vec = slices.Clone(v[:len(v)+3])
	}
	return m
}

// wipe sets all that the cells have, and what stands behind their end and their vectors', to another thing.
func wipe(l []api.Cell) {
	l = l[:cap(l)]
	for i := range l {
		wipeVec(l[i].Version.Vec)
		l[i] = api.Cell{Used: !l[i].Used, Id: 12345, Version: version(12345, 54321)}
	}
}

func wipeVec(v []int32) {
	v = v[:cap(v)]
	for i := range v {
		v[i] = -555
	}
}

func numbers(l ...int) []api.Cell {
	var m []api.Cell
	for _, n := range l {
		m = append(m, api.Cell{Id: uint64(n)})
	}
	return m
}

// call is one with a name; it answers the cells that are answered, an arena's or others.
type call struct {
	name string
	ask  func(l []api.Cell, v api.Version, drop []int) []api.Cell
}

// calls are all of them, with the cells of an arena and what else is handed in.
func calls() []call {
	return []call{
		{"Put", func(l []api.Cell, v api.Version, drop []int) []api.Cell {
			a, _, _ := Put(api.Arena{Cells: l}, 7, v)
			return a.Cells
		}},
		{"End", func(l []api.Cell, v api.Version, drop []int) []api.Cell {
			a, _ := End(api.Arena{Cells: l}, 3, last)
			return a.Cells
		}},
		{"Drop", func(l []api.Cell, v api.Version, drop []int) []api.Cell {
			a, _ := Drop(api.Arena{Cells: l}, drop...)
			return a.Cells
		}},
		{"ByRows", func(l []api.Cell, v api.Version, drop []int) []api.Cell {
			m, _ := ByRows(api.Arena{Cells: l})
			return m
		}},
		{"Packed", func(l []api.Cell, v api.Version, drop []int) []api.Cell {
			a, _ := Packed(l)
			return a.Cells
		}},
		{"told", func(l []api.Cell, v api.Version, drop []int) []api.Cell {
			a := api.Arena{Cells: l}
			of, err := Of(a, 7)
			return numbers(append(of, int(err), Free(a), int(Check(a)), len(New().Cells))...)
		}},
	}
}

// handed are rows of cells of which arenas, and what Packed is handed, are made: that may be and that may not.
func handed() [][]api.Cell {
	open := laid()
	for slot := range slots - 1 {
		open.Cells[slot] = cell(7, uint64(200-slot), 0, int32(slot))
	}
	l := [][]api.Cell{nil, counted(3), counted(5), counted(slots), counted(slots + 1), open.Cells, with(open, 5, cell(7, 0, 0, 5)).Cells, mixed().Cells}
	for _, a := range goodArenas() {
		l = append(l, a.Cells)
	}
	return l
}

// R3 and R5: what is handed in stays as it is, the room behind its ends too, and is not kept; what is answered is new memory, each time.
func TestMemory(t *testing.T) {
	for _, given := range handed() {
		for _, do := range calls() {
			for _, gone := range [][]int{nil, {3}, {2, 0, 1}, {3, 3}, {95, 4}} {
				l, v := behind(ownCells(given)), version(3, 9, roomy([]int32{4, 5})...)
				drop := append(slices.Clone(gone), 77)[:len(gone)]
				was := whole(l)
				first, again := do.ask(l, v, drop), do.ask(l, v, drop)
				if !wordedSame(whole(l), was) || !slices.Equal(v.Vec[:5], []int32{4, 5, 99, 98, 97}) || !slices.Equal(drop[:len(drop)+1], append(slices.Clone(gone), 77)) {
					t.Errorf("%s of %v: what was handed in is %v, %v, %v", do.name, given, l, v, drop)
				}
				want := ownCells(first)
				wipe(l)
				wipeVec(v.Vec)
				for i := range drop {
					drop[i] = 55
				}
				wipe(again)
				if !wordedSame(first, want) {
					t.Errorf("%s of %v: %v is %v now", do.name, given, want, first)
				}
				parted(t, do.name, first, want)
			}
		}
	}
}

// parted holds that no two vectors of an answer stand where another one does: each one is wiped, and all behind it are what they were.
func parted(t *testing.T, name string, answer, want []api.Cell) {
	t.Helper()
	for i := range answer {
		if !wordedSame(answer[i:i+1], want[i:i+1]) {
			t.Errorf("%s: %v shares memory", name, want)
		}
		wipeVec(answer[i].Version.Vec)
	}
}

// R3: cells that share one vector, and a version that has that of a cell: what comes shares none.
func TestSharedVectors(t *testing.T) {
	v := []int32{4, 5}
	shared := make([]api.Cell, slots)
	for slot := range slots - 1 {
		shared[slot] = cell(7, 3, 0, v...)
	}
	for _, l := range [][]api.Cell{shared, shared[:5]} {
		for _, do := range calls() {
			answer := do.ask(l, l[2].Version, []int{1, 2})
			parted(t, do.name, answer, ownCells(answer))
		}
	}
	if !slices.Equal(v, []int32{4, 5}) {
		t.Errorf("%v", v)
	}
}

// R3: the slots that Of answers are new memory each time.
func TestMemoryOfSlots(t *testing.T) {
	a := mixed()
	first, _ := Of(a, 7)
	again, _ := Of(a, 7)
	again = again[:cap(again)]
	for i := range again {
		again[i] = -5
	}
	if !slices.Equal(first, []int{95, 3, 6, 0}) || !wordedSame(a.Cells, mixed().Cells) {
		t.Errorf("%v", first)
	}
	ofs(t, a, 7, []int{95, 3, 6, 0}, api.OK)
}

// R5: the same arguments have the same answers, whatever was asked between.
func TestAskedAgain(t *testing.T) {
	for _, l := range handed() {
		for _, do := range calls() {
			want := ownCells(do.ask(l, version(3, 0, 5), []int{0, 2}))
			New()
			Put(New(), 5, version(1, 0, 1))
			Drop(mixed(), 0, 0)
			Packed(counted(97))
			Of(mixed(), 2)
			if got := do.ask(l, version(3, 0, 5), []int{0, 2}); !wordedSame(got, want) {
				t.Errorf("%s of %v: %v, and then %v", do.name, l, want, got)
			}
		}
	}
}
