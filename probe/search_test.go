package probe

import (
	"math"
	"testing"

	"quiver/api"
)

// allSlots are all of them.
func allSlots() []int {
	return spread(0, slots, 1)
}

// someProbes are of that dimension: of few and of many hits and lists, as of times at which some, all and no versions are visible.
func someProbes(seed uint64, dim int) []api.Probe {
	next := random(seed)
	var l []api.Probe
	for i, v := range append(scattered(seed, 5, dim, 9), make([]int32, dim), filled(1, dim, most)[0]) {
		l = append(l, probing([]int{1, maxK, 3, 8}[i%4], []int{1, 2, 3, 4, 6, maxProbe}[next(6)], uint64(next(45)), v...))
	}
	times := edgeTimes()
	return append(l, probing(maxK, 1+next(6), times[next(len(times))], scattered(seed+1, 1, dim, 4)[0]...), probing(2, 1, 15, other(dim)...))
}

// P14.3: arenas of all kinds, by lists that agree with them and by lists that do not.
func TestSearchAsWorded(t *testing.T) {
	found, unlike := 0, 0
	hold := func(a api.Arena, l api.Lists, p api.Probe) {
		want, err := wordedSearch(a, l, p)
		searches(t, a, l, p, want, err)
		switch {
		case err == api.ErrDim:
			unlike++
		case len(want) > 0:
			found++
		}
	}
	for dim := 1; dim <= 4; dim++ {
		sets := goodCentroids(dim)
		for i, a := range arenasOf(dim) {
			for j := i % 4; j < len(sets); j += 4 {
				for _, p := range someProbes(uint64(i*100+j), dim) {
					hold(a, wordedBuild(a, sets[j]), p)
					hold(a, sharedOut(uint64(i+j), sets[j]), p)
					hold(a, listed(sets[j], allSlots()), p)
				}
			}
		}
		for i, a := range mixedArenas(dim) {
			for j := i % 4; j < len(sets); j += 4 {
				for _, p := range someProbes(uint64(i*200+j), dim) {
					hold(a, sharedOut(uint64(i+j), sets[j]), p)
				}
			}
		}
	}
	if found < 1000 || unlike < 1000 {
		t.Errorf("just %d found something, %d were of unlike dimensions", found, unlike)
	}
}

// P14.3: written out: what is in a list counts, not to what its vector belongs.
func TestSearchByLists(t *testing.T) {
	a := put(laid(at(1, 1), at(2, 9), at(3, 12), at(4, 22)), 95, at(5, 6))
	c := ones(0, 10, 20)
	all := hits(5, 0, 2, 9, 1, 25, 3, 36, 4, 256)
	for _, x := range []struct {
		l    api.Lists
		want [3][]api.Hit // of one list, of two, of three
	}{
		// They agree.
		{listed(c, []int{0}, []int{1, 2, 95}, []int{3}), [3][]api.Hit{hits(5, 0, 2, 9, 3, 36), hits(5, 0, 2, 9, 1, 25, 3, 36), all}},
		// Nothing is in a list.
		{listed(c), [3][]api.Hit{}},
		// Slots of which some are used are in all lists, others in none.
		{listed(c, []int{4, 5}, []int{1, 40}, []int{94}), [3][]api.Hit{hits(2, 9), hits(2, 9), hits(2, 9)}},
		// Slots are in lists to which their vectors do not belong.
		{listed(c, []int{1, 2, 95}, []int{3}, []int{0}), [3][]api.Hit{hits(4, 256), hits(5, 0, 2, 9, 3, 36, 4, 256), all}},
		{listed(c, nil, nil, []int{0, 1, 2, 3, 95}), [3][]api.Hit{nil, nil, all}},
		{listed(c, allSlots()), [3][]api.Hit{nil, all, all}},
		{listed(c, nil, allSlots()), [3][]api.Hit{all, all, all}},
		// The nearest list has nothing, or just what is not used.
		{listed(c, []int{0, 1}, nil, []int{95}), [3][]api.Hit{nil, hits(2, 9, 1, 25), hits(5, 0, 2, 9, 1, 25)}},
		{listed(c, []int{0, 1}, spread(4, 95, 1), []int{95}), [3][]api.Hit{nil, hits(2, 9, 1, 25), hits(5, 0, 2, 9, 1, 25)}},
	} {
		for n := 1; n <= 9; n++ {
			searches(t, a, x.l, probing(16, n, 1, 6), x.want[min(n, 3)-1], api.OK)
		}
		for _, n := range []int{3, 96, maxProbe} {
			searches(t, a, x.l, probing(16, n, 1, 6), x.want[2], api.OK)
		}
	}
}

// P14.3: of centroids that are equally near those that stand ahead are asked first, wherever N cuts.
func TestSearchOfEquallyNearLists(t *testing.T) {
	a := laid(at(10, 5), at(11, 6), at(12, 7), at(13, 8), at(14, 9), at(15, 10))
	l := listed(ones(7, 3, 7, 3, 5, 7), []int{0}, []int{1}, []int{2}, []int{3}, []int{4}, []int{5})
	order := []uint64{14, 10, 11, 12, 13, 15}
	for n := 1; n <= 8; n++ {
		var in []api.Row
		for _, id := range order[:min(n, 6)] {
			in = append(in, row(id, int32(id-5)))
		}
		p := probing(16, n, 1, 5)
		searches(t, a, l, p, wordedFound(in, p.Query), api.OK)
	}
	same := listed(filled(6, 1, 4), []int{3}, []int{2}, []int{5}, []int{1}, []int{4}, []int{0})
	searches(t, a, same, probing(16, 1, 1, 5), hits(13, 9), api.OK)
	searches(t, a, same, probing(16, 2, 1, 5), hits(12, 4, 13, 9), api.OK)
	searches(t, a, same, probing(16, 3, 1, 5), hits(12, 4, 13, 9, 15, 25), api.OK)
	searches(t, a, same, probing(16, 5, 1, 5), hits(11, 1, 12, 4, 13, 9, 14, 16, 15, 25), api.OK)
	searches(t, a, same, probing(16, 6, 1, 5), hits(10, 0, 11, 1, 12, 4, 13, 9, 14, 16, 15, 25), api.OK)
}

// P14.3: around Begin and around End, in the list that is asked.
func TestSearchAtTimes(t *testing.T) {
	for _, c := range []struct {
		begin, end, ts uint64
		want           bool
	}{
		{3, 0, 0, false}, {3, 0, 2, false}, {3, 0, 3, true}, {3, 0, 4, true}, {3, 0, last, true}, {3, 0, last + 1, true}, {3, 0, math.MaxUint64, true},
		{3, 7, 0, false}, {3, 7, 2, false}, {3, 7, 3, true}, {3, 7, 6, true}, {3, 7, 7, false}, {3, 7, 8, false}, {3, 7, last, false}, {3, 7, math.MaxUint64, false},
		{1, 0, 0, false}, {1, 0, 1, true}, {1, 2, 0, false}, {1, 2, 1, true}, {1, 2, 2, false},
		{last, 0, last - 1, false}, {last, 0, last, true}, {last, 0, math.MaxUint64, true},
		{last - 1, last, last - 2, false}, {last - 1, last, last - 1, true}, {last - 1, last, last, false},
		{3, last, last - 1, true}, {3, last, last, false}, {3, 7, 1<<32 + 5, false}, {1<<32 + 3, 0, 5, false}, {3, 0, 1 << 63, true},
	} {
		for _, slot := range edgeSlots() {
			a := put(laid(), slot, cell(7, c.begin, c.end, 5))
			for _, n := range []int{1, 2, maxProbe} {
				var want []api.Hit
				if c.want {
					want = hits(7, 1)
				}
				searches(t, a, listed(ones(0, 10), allSlots()), probing(1, n, c.ts, 4), want, api.OK)
				searches(t, a, listed(ones(0, 10), []int{slot}), probing(16, n, c.ts, 4), want, api.OK)
				if n == 1 {
					want = nil
				}
				searches(t, a, listed(ones(0, 10), nil, []int{slot}), probing(1, n, c.ts, 4), want, api.OK)
			}
		}
	}
}

// P14.3: the versions of one row, one behind the other, in lists of their own: just the one of the time is found, if its list is asked.
func TestSearchOfVersions(t *testing.T) {
	a := laid(cell(7, 2, 5, 1), cell(7, 5, 9, 11), cell(7, 9, 0, 19), cell(8, 4, 10, 2))
	l := listed(ones(0, 10, 20), []int{0, 3}, []int{1}, []int{2})
	for _, c := range []struct {
		ts   uint64
		n    int
		want []api.Hit
	}{
		{0, 3, nil}, {1, 3, nil}, {2, 1, nil}, {2, 2, hits(7, 64)}, {4, 1, nil}, {4, 2, hits(8, 49, 7, 64)}, {5, 1, hits(7, 4)}, {5, 2, hits(7, 4, 8, 49)},
		{8, 3, hits(7, 4, 8, 49)}, {9, 1, nil}, {9, 2, hits(8, 49)}, {9, 3, hits(8, 49, 7, 100)}, {10, 2, nil}, {10, 3, hits(7, 100)}, {math.MaxUint64, 3, hits(7, 100)},
	} {
		searches(t, a, l, probing(4, c.n, c.ts, 9), c.want, api.OK)
	}
}

// P14.3: an arena of no used cell, of one at each slot, and of all.
func TestSearchOfFewAndAll(t *testing.T) {
	full := laid()
	for slot := range slots {
		full.Cells[slot] = at(uint64(1000+slot), int32(slot))
	}
	l := listed(ones(0, 95), allSlots())
	split := listed(ones(0, 95), spread(0, slots, 2), spread(1, slots, 2))
	for slot := range slots {
		v := int32(slot)
		searches(t, full, l, probing(1, 2, 1, v), hits(uint64(1000+slot), 0), api.OK)
		searches(t, full, split, probing(1, 2, 1, v), hits(uint64(1000+slot), 0), api.OK)
		searches(t, laid(), split, probing(16, 2, 1, v), nil, api.OK)
		near := slot / 48 // which centroid is nearer
		one := thinned(full, slot)
		var want []api.Hit
		if slot%2 == near {
			want = hits(uint64(1000+slot), 0)
		}
		searches(t, one, split, probing(16, 1, 1, v), want, api.OK)
		searches(t, one, split, probing(16, 2, 1, v), hits(uint64(1000+slot), 0), api.OK)
		searches(t, one, listed(ones(0, 95)), probing(16, 2, 1, v), nil, api.OK)
		searches(t, put(full, slot, api.Cell{}), masked(listed(ones(0)), 0, maskOf(slot)), probing(16, 1, 1, v), nil, api.OK)
	}
}

// P14.3: a vector of another dimension, at each slot: where it is looked at, it is told; where it is not, it is nothing.
func TestSearchOfAnotherDimension(t *testing.T) {
	for dim := 1; dim <= 4; dim++ {
		c := append(filled(1, dim, 0), filled(1, dim, 50)...)
		all := laid()
		for slot, v := range scattered(3, slots, dim, 9) {
			all.Cells[slot] = cell(uint64(slot), 5, 10, v...)
		}
		near, far := probing(4, 1, 7, make([]int32, dim)...), probing(4, 2, 7, make([]int32, dim)...)
		for slot := range slots {
			strange := put(all, slot, cell(7, 5, 10, other(dim)...))
			rest := allSlots()
			rest = append(rest[:slot], rest[slot+1:]...)
			found := wordedFound(rowsAt(strange, rest), near.Query)
			// In the list that is asked, in one that is not, till that is asked too, and in none.
			searches(t, strange, listed(c, allSlots()), near, nil, api.ErrDim)
			searches(t, strange, listed(c, rest, []int{slot}), near, found, api.OK)
			searches(t, strange, listed(c, rest, []int{slot}), far, nil, api.ErrDim)
			searches(t, strange, listed(c, []int{slot}, rest), near, nil, api.ErrDim)
			searches(t, strange, listed(c, rest), far, found, api.OK)
			searches(t, strange, listed(c, nil, rest), far, found, api.OK)
			// Not yet visible, just so, still so, and not any more.
			for _, x := range []struct {
				begin, end uint64
				err        api.Errno
			}{{8, 10, api.OK}, {8, 0, api.OK}, {7, 10, api.ErrDim}, {7, 0, api.ErrDim}, {5, 8, api.ErrDim}, {5, 7, api.OK}, {1, 2, api.OK}} {
				want := found
				if x.err != api.OK {
					want = nil
				}
				searches(t, put(all, slot, cell(7, x.begin, x.end, other(dim)...)), listed(c, allSlots()), near, want, x.err)
			}
			// Nothing else is looked at.
			searches(t, thinned(strange, slot), listed(c, []int{slot}), near, nil, api.ErrDim)
			searches(t, thinned(strange, slot), listed(c, nil, []int{slot}), near, nil, api.OK)
		}
	}
}

// P14.3: centroids of another dimension than the query's vector, whatever the arena has.
func TestSearchOfCentroidsOfAnotherDimension(t *testing.T) {
	for dim := 1; dim <= 4; dim++ {
		for far := 1; far <= 4; far++ {
			for _, a := range []api.Arena{laid(), wide(dim, 9), wide(far, 9), laid(at(7, other(dim)...)), thinned(wide(far, 9), 95)} {
				for n := 1; n <= maxLists; n++ {
					l := listed(scattered(5, n, dim, 30))
					p := probing(3, n, 9, make([]int32, far)...)
					want := api.ErrDim
					if far == dim {
						want = api.OK
					}
					searches(t, a, l, p, nil, want)
				}
				l := listed(filled(2, dim, 0), allSlots())
				p := probing(3, 1, 9, make([]int32, far)...)
				want, err := wordedSearch(a, l, p)
				searches(t, a, l, p, want, err)
			}
		}
	}
}

// P14.3: hits of equal distance stand by Id, of whatever slots and lists; one Id is there as often as it has visible versions.
func TestSearchOfEqualOnes(t *testing.T) {
	a := laid(at(9, 4), at(3, 6), at(7, 4), at(0, 6), at(math.MaxUint64, 5), at(1<<63, 4), at(5, 7), at(7, 4), at(7, 9))
	for _, l := range []api.Lists{listed(ones(5), allSlots()), listed(ones(4, 6), []int{0, 2, 4, 5, 7}, []int{1, 3, 6, 8}), listed(ones(6, 4), []int{0, 1, 2}, spread(3, slots, 1))} {
		searches(t, a, l, probing(4, 2, 1, 5), hits(math.MaxUint64, 0, 0, 1, 3, 1, 7, 1), api.OK)
		searches(t, a, l, probing(5, 2, 1, 5), hits(math.MaxUint64, 0, 0, 1, 3, 1, 7, 1, 7, 1), api.OK)
		searches(t, a, l, probing(16, 2, 1, 5), hits(math.MaxUint64, 0, 0, 1, 3, 1, 7, 1, 7, 1, 9, 1, 1<<63, 1, 5, 4, 7, 16), api.OK)
	}
}

// P14.3: each K, of as many hits as there are, of fewer and of more; the first K of what the lists have, not of what there is.
func TestSearchOfAllKs(t *testing.T) {
	a, near, far := laid(), []int(nil), []int(nil)
	var inOrder []api.Hit
	for n := range 20 {
		for k := 1; k <= maxK; k++ {
			searches(t, a, listed(ones(50, 60), near, far), probing(k, 1, 1, 50), inOrder[:min(n, k)], api.OK)
		}
		for _, k := range badKs() {
			searches(t, a, listed(ones(50, 60), near, far), probing(k, 1, 1, 50), nil, api.ErrArg)
		}
		// The slots go on from behind and from the middle, so that they tell nothing of the order.
		slot := n * 37 % slots
		a.Cells[slot] = at(uint64(100-n), int32(50+n))
		near = append(near, slot)
		inOrder = append(inOrder, api.Hit{Id: uint64(100 - n), Dist: uint64(n * n)})
		// What is as near, but in a list that is not asked, takes no place.
		slot = (slot + 5) % slots
		if !a.Cells[slot].Used {
			a.Cells[slot] = at(1, 50)
			far = append(far, slot)
		}
	}
	if len(far) < 10 {
		t.Errorf("just %d in the other list", len(far))
	}
}

// P14.3: the furthest distances there are, and the least ones.
func TestSearchOfFarOnes(t *testing.T) {
	a := laid(at(1, most, most, most, most), at(2, least, least, least, least), at(3, most, least, most, least), at(4, 0, 0, 0, 0))
	c := [][]int32{{most, most, most, most}, {least, least, least, least}}
	full, half := uint64(2*most)*(2*most), uint64(most)*most
	l := listed(c, []int{0, 2, 3}, []int{1})
	searches(t, a, l, probing(16, 1, 1, least, least, least, least), hits(2, 0), api.OK)
	searches(t, a, l, probing(16, 2, 1, least, least, least, least), hits(2, 0, 4, 4*half, 3, 2*full, 1, 4*full), api.OK)
	searches(t, a, l, probing(16, 1, 1, most, most, most, most), hits(1, 0, 4, 4*half, 3, 2*full), api.OK)
}

// P14.3: no centroids: whatever the arena has, and whatever dimension the vector is of.
func TestSearchUntrained(t *testing.T) {
	for dim := 1; dim <= 4; dim++ {
		for _, a := range append(arenasOf(dim), mixedArenas(dim)...) {
			for _, l := range []api.Lists{{}, {Centroids: [][]int32{}, Masks: []api.Mask{}}, {Masks: []api.Mask{}}} {
				for _, v := range [][]int32{make([]int32, dim), other(dim)} {
					searches(t, a, l, probing(3, 1, 9, v...), nil, api.ErrUntrained)
					searches(t, a, l, probing(3, maxProbe, 0, v...), nil, api.ErrUntrained)
				}
			}
		}
	}
}

// P14.3: lists that may not be, whether their arena may be or not, and of whatever dimensions.
func TestSearchOfBadLists(t *testing.T) {
	bad := fewBadArenas()
	for i, l := range badLists() {
		if wordedLists(l) {
			t.Fatalf("%v", l)
		}
		for dim := 1; dim <= 4; dim++ {
			p := probing(1+i%maxK, 1+i%7, uint64(i), make([]int32, dim)...)
			searches(t, laid(), l, p, nil, api.ErrLists)
			searches(t, wide(1+i%4, 9), l, p, nil, api.ErrLists)
			searches(t, bad[i%len(bad)], l, p, nil, api.ErrLists)
		}
	}
}

// P14.3: as many masks as there are centroids are needed, even if nothing is in those that are too many.
func TestSearchOfMasksByNumber(t *testing.T) {
	for n := range maxLists + 1 {
		for masks := range maxLists + 3 {
			l := api.Lists{Centroids: filled(n, 2, 5), Masks: make([]api.Mask, masks)}
			want := api.ErrLists
			switch {
			case n == masks && n == 0:
				want = api.ErrUntrained
			case n == masks:
				want = api.OK
			}
			searches(t, wide(2, 9), l, probing(3, 1, 9, 5, 5), nil, want)
			searches(t, laid(), l, probing(3, maxProbe, 9, 5, 5), nil, want)
		}
	}
}

// P14.3: arenas that may not be, by lists in which the fault is, and is not, and by none.
func TestSearchOfBadArenas(t *testing.T) {
	for i, a := range badArenas() {
		if wordedArena(a) {
			t.Fatalf("%v", a)
		}
		dim := 1 + i%4
		for _, l := range []api.Lists{{}, listed(filled(2, dim, 0)), listed(filled(2, dim, 0), allSlots()), listed(filled(1, 2, 0), []int{95}), sharedOut(uint64(i), filled(3, 1, 5))} {
			searches(t, a, l, probing(1, 1, uint64(i%9), make([]int32, dim)...), nil, api.ErrArena)
			searches(t, a, l, probing(16, maxProbe, math.MaxUint64, other(dim)...), nil, api.ErrArena)
		}
	}
}

// P14.3: of several errors that of Check is told first, then the lists, the arena, no centroids, the dimension.
func TestSearchOrderOfErrors(t *testing.T) {
	arenas := append(fewBadArenas(), laid(), wide(1, 9), wide(2, 9), put(wide(1, 9), 95, at(5, 1, 2)))
	all := append(fewBadLists(), api.Lists{}, listed(ones(5, 6), allSlots()), listed([][]int32{{1, 2}}, allSlots()))
	for _, a := range arenas {
		for _, l := range all {
			for _, v := range append(fewBadVecs(), []int32{5}, []int32{5, 6}) {
				for _, k := range badKs() {
					searches(t, a, l, probing(k, 1, 9, v...), nil, api.ErrArg)
				}
				for _, n := range badNs() {
					searches(t, a, l, probing(1, n, 9, v...), nil, api.ErrArg)
					searches(t, a, l, probing(0, n, 9, v...), nil, api.ErrArg)
				}
			}
			for _, v := range badVecs() {
				searches(t, a, l, probing(1, 1, 9, v...), nil, api.ErrVec)
			}
		}
		for _, l := range fewBadLists() {
			searches(t, a, l, probing(1, 1, 9, 5), nil, api.ErrLists)
			searches(t, a, l, probing(1, 1, 9, 5, 6), nil, api.ErrLists)
		}
	}
	for _, a := range fewBadArenas() {
		for _, l := range []api.Lists{{}, listed(ones(5, 6), allSlots()), listed([][]int32{{1, 2}}, allSlots())} {
			searches(t, a, l, probing(1, 1, 9, 5), nil, api.ErrArena)
			searches(t, a, l, probing(1, 1, 9, 5, 6), nil, api.ErrArena)
		}
	}
	searches(t, laid(at(5, 1, 2)), api.Lists{}, probing(1, 1, 9, 5), nil, api.ErrUntrained)
	searches(t, laid(at(5, 1, 2)), listed(ones(5), allSlots()), probing(1, 1, 9, 5), nil, api.ErrDim)
	searches(t, laid(at(5, 1)), listed([][]int32{{1, 2}}, allSlots()), probing(1, 1, 9, 5), nil, api.ErrDim)
}
