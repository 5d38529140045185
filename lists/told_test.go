package lists

import (
	"math"
	"slices"
	"testing"

	"quiver/api"
)

// P13.4: each slot, and numbers that are none, of lists of all kinds.
func TestWhereAsWorded(t *testing.T) {
	for _, l := range goodLists() {
		for slot := -130; slot < 260; slot++ {
			place, there := wordedWhere(l, slot)
			isAt(t, l, slot, place, there)
		}
		for _, slot := range badSlots() {
			isAt(t, l, slot, 0, false)
		}
	}
}

// P13.4: written out: slots in the first list, a middle one and the last one, in none, and at the ends.
func TestWhereEdges(t *testing.T) {
	l := listed(ones(5, 5, 7, 1, 2, 3), []int{0, 64}, []int{1}, []int{63, 94}, nil, []int{10}, []int{2, 95})
	for slot, place := range map[int]int{0: 0, 64: 0, 1: 1, 63: 2, 94: 2, 10: 4, 2: 5, 95: 5} {
		isAt(t, l, slot, place, true)
	}
	for _, slot := range []int{3, 4, 9, 11, 62, 65, 93, -1, 96, 128, 64 + 64, 127} {
		isAt(t, l, slot, 0, false)
	}
	isAt(t, api.Lists{}, 0, 0, false)
	isAt(t, listed(ones(5)), 0, 0, false)
	isAt(t, listed(ones(5), spread(0, slots, 1)), 95, 0, true)
	isAt(t, listed(ones(5), spread(0, slots, 1)), 96, 0, false)
}

// P13.4: of lists that may not be none has a slot, even if a mask has it.
func TestWhereOfBadLists(t *testing.T) {
	for _, l := range badLists() {
		for slot := -1; slot < 130; slot++ {
			isAt(t, l, slot, 0, false)
		}
	}
}

// subsets are all sets of the places below n, rising.
func subsets(n int) [][]int {
	l := [][]int{nil}
	for place := range n {
		for _, places := range slices.Clone(l) {
			l = append(l, append(slices.Clone(places), place))
		}
	}
	return l
}

// holdUnion holds what Union answers against the chapter's words.
func holdUnion(t *testing.T, l api.Lists, places ...int) {
	t.Helper()
	want, err := wordedUnion(l, places...)
	unites(t, l, places, want, err)
}

// P13.4: all sets of places, in order, back, and each one twice.
func TestUnionAsWorded(t *testing.T) {
	for _, l := range goodLists() {
		for _, places := range subsets(len(l.Centroids)) {
			holdUnion(t, l, places...)
			back := slices.Clone(places)
			slices.Reverse(back)
			holdUnion(t, l, back...)
			holdUnion(t, l, slices.Concat(places, back)...)
		}
	}
}

// P13.4: written out: no places, one, all, one twice, and places at which no list is.
func TestUnionEdges(t *testing.T) {
	l := listed(ones(5, 6, 7), []int{0, 64}, nil, []int{63, 95})
	for _, c := range []struct {
		l      api.Lists
		places []int
		want   api.Mask
		err    api.Errno
	}{
		{l, nil, api.Mask{}, api.OK},
		{l, []int{}, api.Mask{}, api.OK},
		{l, []int{0}, maskOf(0, 64), api.OK},
		{l, []int{1}, api.Mask{}, api.OK},
		{l, []int{2}, maskOf(63, 95), api.OK},
		{l, []int{0, 1}, maskOf(0, 64), api.OK},
		{l, []int{2, 1, 0}, maskOf(0, 63, 64, 95), api.OK},
		{l, []int{0, 1, 2}, maskOf(0, 63, 64, 95), api.OK},
		{l, []int{2, 2}, maskOf(63, 95), api.OK},
		{l, []int{0, 2, 0, 2, 0}, maskOf(0, 63, 64, 95), api.OK},
		{l, []int{3}, api.Mask{}, api.ErrArg},
		{l, []int{-1}, api.Mask{}, api.ErrArg},
		{l, []int{0, 3}, api.Mask{}, api.ErrArg},
		{l, []int{-1, 0}, api.Mask{}, api.ErrArg},
		{l, []int{0, -1, 2}, api.Mask{}, api.ErrArg},
		{api.Lists{}, nil, api.Mask{}, api.OK},
		{api.Lists{}, []int{0}, api.Mask{}, api.ErrArg},
		{api.Lists{}, []int{-1}, api.Mask{}, api.ErrArg},
		{listed(filled(6, 2, 0)), []int{5}, api.Mask{}, api.OK},
		{listed(filled(6, 2, 0)), []int{6}, api.Mask{}, api.ErrArg},
	} {
		unites(t, c.l, c.places, c.want, c.err)
	}
	unites(t, l, slices.Repeat([]int{0, 1}, 5000), maskOf(0, 64), api.OK)
}

// P13.4: a place at which no list is, alone, and first, in the middle and last among others.
func TestUnionOfBadPlaces(t *testing.T) {
	for _, l := range goodLists() {
		n := len(l.Centroids)
		all := spread(0, n, 1)
		for _, bad := range []int{-1, n, n + 1, -2, -n - 1, 64 + n, 96, 256, 256 + n, math.MinInt32, math.MaxInt32, 1 << 32, -1 << 32, math.MinInt, math.MaxInt} {
			for _, places := range [][]int{{bad}, append(slices.Clone(all), bad), append([]int{bad}, all...), slices.Insert(slices.Clone(all), n/2, bad), {bad, bad}} {
				unites(t, l, places, api.Mask{}, api.ErrArg)
			}
		}
	}
}

// P13.4: lists that may not be, ahead of places at which no list is.
func TestUnionOfBadLists(t *testing.T) {
	for _, l := range badLists() {
		for _, places := range [][]int{nil, {}, {0}, {0, 0}, {-1}, {6}, {7}, {0, math.MaxInt}, spread(0, len(l.Masks), 1)} {
			unites(t, l, places, api.Mask{}, api.ErrLists)
		}
	}
}
