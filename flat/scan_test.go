package flat

import (
	"math"
	"slices"
	"testing"

	"quiver/api"
)

// P11.2: arenas, masks and queries of all kinds, as the chapter words it.
func TestScan(t *testing.T) {
	all := queries()
	found, unlike := 0, 0
	for _, a := range goodArenas() {
		if !wordedArena(a) {
			t.Fatalf("%v", a)
		}
		for i, m := range masks() {
			// Each mask has other queries than those beside it.
			for j := i % 5; j < len(all); j += 5 {
				q := all[j]
				want, err := wordedScan(a, m, q)
				scans(t, a, m, q, want, err)
				switch {
				case err == api.ErrDim:
					unlike++
				case len(want) > 0:
					found++
				}
			}
		}
	}
	if found < 1000 || unlike < 1000 {
		t.Errorf("just %d found something, %d were of unlike dimensions", found, unlike)
	}
}

// P11.2: just the slots in the mask are looked at: none, one, all, and those that are not used.
func TestScanThroughMasks(t *testing.T) {
	a := laid()
	for slot := range slots {
		a.Cells[slot] = at(uint64(1000+slot), int32(slot))
	}
	scans(t, a, api.Mask{}, query(16, 3), nil, api.OK)
	for slot := range slots {
		far := uint64((slot - 3) * (slot - 3))
		scans(t, a, maskOf(slot), query(16, 3), hits(uint64(1000+slot), far), api.OK)
		scans(t, a, maskOf(slot, 3), query(1, 3), hits(1003, 0), api.OK)
		free := with(a, slot, api.Cell{})
		scans(t, free, maskOf(slot), query(16, 3), nil, api.OK)
		beside := slot - 1
		if slot == 0 {
			beside = 1
		}
		scans(t, free, maskOf(spread(0, slots, 1)...), query(1, int32(slot)), hits(uint64(1000+beside), 1), api.OK)
		scans(t, thinned(a, slot), maskOf(spread(0, slots, 1)...), query(16, 3), hits(uint64(1000+slot), far), api.OK)
		one := maskOf(slot)
		scans(t, thinned(a, slot), api.Mask{^one[0], ^one[1]}, query(16, 3), nil, api.OK)
	}
	scans(t, laid(), maskOf(spread(0, slots, 1)...), query(16, 3), nil, api.OK)
	scans(t, laid(), maskOf(0, 63, 64, 95), query(1, 1, 2, 3, 4), nil, api.OK)
}

// P11.2: what the mask has from MaxSlots on is nothing: each bit alone, with slots besides, and all of them.
func TestScanBehindTheSlots(t *testing.T) {
	a := wide(2)
	for n := slots; n < 128; n++ {
		scans(t, a, maskOf(n), query(16, 0, 0), nil, api.OK)
		scans(t, laid(), maskOf(n), query(16, 0, 0), nil, api.OK)
		// Were it a slot modulo MaxSlots, or modulo 64, or modulo 32, it would be this one.
		b := laid()
		b.Cells[n-slots], b.Cells[n-64], b.Cells[95] = at(1, 1), at(2, 1), at(3, 9)
		scans(t, b, maskOf(n), query(16, 1), nil, api.OK)
		scans(t, b, maskOf(n, 95), query(1, 9), hits(3, 0), api.OK)
	}
	all := maskOf(spread(slots, 128, 1)...)
	scans(t, a, all, query(16, 0, 0), nil, api.OK)
	want, _ := wordedScan(a, maskOf(0, 5, 64, 95), query(16, 0, 0))
	scans(t, a, api.Mask{maskOf(0, 5)[0], all[1] | maskOf(64, 95)[1]}, query(16, 0, 0), want, api.OK)
	everything := maskOf(spread(0, slots, 1)...)
	want, _ = wordedScan(a, everything, query(16, 0, 0))
	scans(t, a, api.Mask{math.MaxUint64, math.MaxUint64}, query(16, 0, 0), want, api.OK)
	// What another number of cells would have there is not looked at: such an arena may not be.
	scans(t, api.Arena{Cells: slices.Repeat([]api.Cell{at(7, 5)}, 128)}, all, query(16, 5), nil, api.ErrArena)
}

// P11.2: a vector of another dimension, at each slot: in the mask it is told, out of it it is nothing.
func TestScanOfAnotherDimension(t *testing.T) {
	for dim := 1; dim <= 4; dim++ {
		a := wide(dim)
		for other := 1; other <= 4; other++ {
			if other == dim {
				continue
			}
			for slot := range slots {
				b := with(a, slot, at(7, []int32{0, 0, 0, 0}[:other]...))
				everything := maskOf(spread(0, slots, 1)...)
				q, one := query(3, make([]int32, dim)...), maskOf(slot)
				scans(t, b, everything, q, nil, api.ErrDim)
				scans(t, b, one, q, nil, api.ErrDim)
				scans(t, b, one, query(1, make([]int32, other)...), hits(7, 0), api.OK)
				others := api.Mask{everything[0] &^ one[0], everything[1] &^ one[1]}
				scans(t, b, others, q, wordedFound(wordedIn(b, others), q), api.OK)
				scans(t, b, api.Mask{}, q, nil, api.OK)
				// A cell that is not used has no dimension.
				free := with(a, slot, api.Cell{})
				scans(t, free, everything, q, wordedFound(wordedIn(free, everything), q), api.OK)
			}
		}
	}
}

// P11.2: arenas that may not be, through masks in which the fault is, and is not, and through none.
func TestScanOfBadArenas(t *testing.T) {
	for _, a := range badArenas() {
		if wordedArena(a) {
			t.Fatalf("%v", a)
		}
		for _, m := range masks() {
			scans(t, a, m, query(1, 5), nil, api.ErrArena)
		}
		scans(t, a, api.Mask{}, query(16, 1, 2), nil, api.ErrArena)
		scans(t, a, maskOf(95), query(16, 1, 2), nil, api.ErrArena)
	}
}

// P11.2: of several errors K is told first, then the query's vector, the arena, the dimension.
func TestScanOrderOfErrors(t *testing.T) {
	bad := []api.Arena{{}, {Cells: make([]api.Cell, 95)}, with(wide(1), 5, cell(7, 0, 0, 5)), with(wide(2), 5, api.Cell{Id: 7})}
	good := []api.Arena{laid(), wide(1), wide(2), with(wide(1), 95, at(5, 1, 2))}
	for _, m := range []api.Mask{{}, maskOf(0), maskOf(5), maskOf(95), maskOf(spread(0, 128, 1)...)} {
		for _, k := range badKs() {
			for _, a := range slices.Concat(bad, good) {
				for _, v := range [][]int32{{5}, {5, 6}, nil, {most + 1}, {1, 2, 3, 4, 5}} {
					scans(t, a, m, query(k, v...), nil, api.ErrArg)
				}
			}
		}
		for _, v := range badVecs() {
			for _, a := range slices.Concat(bad, good) {
				scans(t, a, m, query(1, v...), nil, api.ErrVec)
				scans(t, a, m, query(16, v...), nil, api.ErrVec)
			}
		}
		for _, a := range bad {
			scans(t, a, m, query(1, 5, 6, 7), nil, api.ErrArena)
		}
	}
	scans(t, with(wide(1), 95, at(5, 1, 2)), maskOf(95), query(1, 5), nil, api.ErrDim)
}

// P11.2: equal distances stand by Id, whatever the slots; and one Id is there as often as it has cells.
func TestScanOfEqualOnes(t *testing.T) {
	everything := maskOf(spread(0, slots, 1)...)
	a := laid(at(9, 4), at(3, 6), at(7, 4), at(0, 6), at(math.MaxUint64, 5), at(1<<63, 4), at(5, 7))
	scans(t, a, everything, query(4, 5), hits(math.MaxUint64, 0, 0, 1, 3, 1, 7, 1), api.OK)
	scans(t, a, everything, query(16, 5), hits(math.MaxUint64, 0, 0, 1, 3, 1, 7, 1, 9, 1, 1<<63, 1, 5, 4), api.OK)
	// The same Id with the same vector, and with others, also of other times.
	b := laid(cell(7, 1, 3, 5), cell(7, 3, 4, 9), cell(7, 4, 0, 5), at(7, 4), at(2, 9), at(7, 5))
	scans(t, b, everything, query(16, 5), hits(7, 0, 7, 0, 7, 0, 7, 1, 2, 16, 7, 16), api.OK)
	scans(t, b, everything, query(2, 5), hits(7, 0, 7, 0), api.OK)
	scans(t, b, maskOf(1, 2, 4), query(2, 5), hits(7, 0, 2, 16), api.OK)
	same := laid()
	for slot := range slots {
		same.Cells[slot] = at(uint64(slots-slot), 5, 5)
	}
	for k := 1; k <= maxK; k++ {
		var want []api.Hit
		for i := range k {
			want = append(want, api.Hit{Id: uint64(i + 1), Dist: 98})
		}
		scans(t, same, everything, query(k, -2, -2), want, api.OK)
	}
}

// P11.2: the furthest distances there are, and the least ones.
func TestScanOfFarOnes(t *testing.T) {
	a := laid(at(1, most, most, most, most), at(2, least, least, least, least), at(3, most, least, most, least), at(4, 0, 0, 0, 0), at(5, most, most, most, most-1))
	full := uint64(2*most) * (2 * most)
	half := uint64(most) * most
	scans(t, a, maskOf(0, 1, 2, 3, 4), query(16, least, least, least, least),
		hits(2, 0, 4, 4*half, 3, 2*full, 5, 3*full+(2*most-1)*(2*most-1), 1, 4*full), api.OK)
	scans(t, a, maskOf(0, 1, 2, 3, 4), query(2, most, most, most, most), hits(1, 0, 5, 1), api.OK)
	scans(t, laid(at(1, most), at(2, least)), maskOf(0, 1), query(2, least), hits(2, 0, 1, full), api.OK)
}

// P11.2: times count for nothing: what is not visible any more, or not yet, is found as well.
func TestScanAtNoTime(t *testing.T) {
	a := laid(cell(1, 1, 2, 5), cell(2, last, 0, 6), cell(3, last-1, last, 7), cell(4, 1, last, 8), cell(5, 1, 0, 9))
	scans(t, a, maskOf(0, 1, 2, 3, 4), query(16, 5), hits(1, 0, 2, 1, 3, 4, 4, 9, 5, 16), api.OK)
}
