package lists

import (
	"slices"
	"testing"

	"quiver/api"
)

// holdBuild holds what Build answers against the chapter's words.
func holdBuild(t *testing.T, a api.Arena, c [][]int32) {
	t.Helper()
	want, err := wordedBuild(a, c)
	builds(t, a, c, want, err)
}

// P13.2: arenas of all kinds, by centroids of each dimension, their own and others.
func TestBuildAsWorded(t *testing.T) {
	arenas := goodArenas()
	for dim := 1; dim <= 4; dim++ {
		for _, c := range goodCentroids(dim) {
			for _, a := range arenas {
				holdBuild(t, a, c)
			}
		}
	}
}

// P13.2: written out: to which place a vector belongs, of equal centroids and of equal distances, and at the utmost ones.
func TestBuildEdges(t *testing.T) {
	all := spread(0, slots, 1)
	full := api.Arena{Cells: slices.Repeat([]api.Cell{cell(5)}, slots)}
	for _, c := range []struct {
		a    api.Arena
		c    [][]int32
		want api.Lists
	}{
		{laid(cell(4), cell(9)), ones(0, 10), listed(ones(0, 10), []int{0}, []int{1})},
		{laid(cell(4), cell(9)), ones(10, 0), listed(ones(10, 0), []int{1}, []int{0})},
		{laid(cell(5)), ones(0, 10), listed(ones(0, 10), []int{0})},
		{laid(cell(5)), ones(10, 0), listed(ones(10, 0), []int{0})},
		{laid(cell(5)), ones(11, 10, 0), listed(ones(11, 10, 0), nil, []int{0})},
		{laid(cell(5), cell(-5)), ones(7, 7, 7), listed(ones(7, 7, 7), []int{0, 1})},
		{laid(cell(8), cell(3)), ones(0, 7, 7), listed(ones(0, 7, 7), []int{1}, []int{0})},
		{full, ones(5), listed(ones(5), all)},
		{full, ones(0, 1, 2, 3, 4, 5), listed(ones(0, 1, 2, 3, 4, 5), nil, nil, nil, nil, nil, all)},
		{full, ones(5, 1, 2, 3, 4, 5), listed(ones(5, 1, 2, 3, 4, 5), all)},
		{laid(), ones(5, 6), listed(ones(5, 6))},
		{laid(), [][]int32{{5, 6, 7, 8}}, listed([][]int32{{5, 6, 7, 8}})},
		{put(laid(), 95, cell(5)), ones(1, 4), listed(ones(1, 4), nil, []int{95})},
		{put(put(laid(), 63, cell(5)), 64, cell(5)), ones(1, 4), listed(ones(1, 4), nil, []int{63, 64})},
		{laid(cell(most), cell(least), cell(0), cell(1), cell(-1)), ones(most, least), listed(ones(most, least), []int{0, 2, 3}, []int{1, 4})},
		{laid(cell(3, 4), cell(5, 1), cell(1, 5)), [][]int32{{3, 3}, {5, 0}, {0, 5}}, listed([][]int32{{3, 3}, {5, 0}, {0, 5}}, []int{0}, []int{1}, []int{2})},
		{laid(cell(most, most, most, most)), [][]int32{{least, least, least, least}, {least, least, least, least + 1}}, listed([][]int32{{least, least, least, least}, {least, least, least, least + 1}}, nil, []int{0})},
	} {
		builds(t, c.a, c.c, c.want, api.OK)
	}
}

// P13.2: of no centroids there are no masks, whatever dimensions the vectors have.
func TestBuildOfNoCentroids(t *testing.T) {
	for _, a := range append(goodArenas(), laid(cell(1), cell(1, 2), cell(1, 2, 3), cell(1, 2, 3, 4))) {
		builds(t, a, nil, api.Lists{}, api.OK)
		builds(t, a, [][]int32{}, api.Lists{}, api.OK)
	}
}

// P13.2: each number of centroids, one more than there may be, and far more.
func TestBuildByNumber(t *testing.T) {
	a := wide(2, 50)
	for n := range maxLists + 1 {
		holdBuild(t, a, scattered(5, n, 2, 50))
		builds(t, laid(), filled(n, 2, 0), listed(filled(n, 2, 0)), api.OK)
	}
	for _, n := range []int{maxLists + 1, maxLists + 2, 96, 256, 258, 5000} {
		builds(t, a, filled(n, 2, 0), api.Lists{}, api.ErrLists)
		builds(t, laid(), filled(n, 2, 0), api.Lists{}, api.ErrLists)
	}
}

// P13.2: centroids that may not be, alone, and with vectors of another dimension: that they may not be is told first.
func TestBuildOfBadCentroids(t *testing.T) {
	for i, c := range badCentroids() {
		builds(t, laid(), c, api.Lists{}, api.ErrLists)
		builds(t, put(laid(), 95, cell(make([]int32, 1+i%4)...)), c, api.Lists{}, api.ErrLists)
		builds(t, wide(1+i/2%4, 9), c, api.Lists{}, api.ErrLists)
		builds(t, laid(cell(1), cell(1, 2)), c, api.Lists{}, api.ErrLists)
	}
}

// P13.2: an arena that may not be, alone, and with whatever else is wrong: that is told ahead of all.
func TestBuildOfBadArenas(t *testing.T) {
	few := [][][]int32{nil, ones(0, 10), filled(7, 1, 0), {nil}, {{1}, {2, 3}}, {{1, 2}, {3, 4}}, ones(most + 1), ones(1, 2, 3, 4, 5, least-1)}
	for _, a := range badArenas() {
		for _, c := range few {
			builds(t, a, c, api.Lists{}, api.ErrArena)
		}
		if len(a.Cells) == slots {
			for _, v := range [][]int32{{1}, {1, 2}, {1, 2, 3}} {
				if b := put(a, 30, cell(v...)); !wordedArena(b) {
					builds(t, b, ones(5), api.Lists{}, api.ErrArena)
					builds(t, b, [][]int32{{1}, {}}, api.Lists{}, api.ErrArena)
				}
			}
		}
	}
	for _, c := range badCentroids() {
		builds(t, put(laid(cell(1)), 50, cell(1, 2, 3, 4, 5)), c, api.Lists{}, api.ErrArena)
	}
}

// P13.2: one vector of another dimension, in each slot, nearer and further than the others, and all of them.
func TestBuildOfUnlikeDimensions(t *testing.T) {
	for dim := 1; dim <= 4; dim++ {
		for far := 1; far <= 4; far++ {
			want := api.ErrDim
			if dim == far {
				want = api.OK
			}
			for _, slot := range edgeSlots() {
				for _, a := range []api.Arena{laid(), wide(dim, 9)} {
					if _, err := Build(put(a, slot, cell(make([]int32, far)...)), filled(3, dim, 0)); err != want {
						t.Errorf("%d and %d at %d: %d, not %d", dim, far, slot, err, want)
					}
				}
			}
			if l, err := Build(wide(far, 9), filled(3, dim, 0)); err != want || err != api.OK && !wordedSame(l, api.Lists{}) {
				t.Errorf("%d and %d: %v, %d, not %d", dim, far, l, err, want)
			}
		}
	}
}
