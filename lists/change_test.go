package lists

import (
	"slices"
	"testing"

	"quiver/api"
)

// holdAdd holds what Add answers against the chapter's words.
func holdAdd(t *testing.T, l api.Lists, slot int, v []int32) {
	t.Helper()
	want, err := wordedAdd(l, slot, v)
	adds(t, l, slot, v, want, err)
}

// holdRemove holds what Remove answers against the chapter's words.
func holdRemove(t *testing.T, l api.Lists, gone ...int) {
	t.Helper()
	want, err := wordedRemove(l, gone...)
	removes(t, l, gone, want, err)
}

// P13.3: each slot to lists of all kinds, with vectors of each dimension.
func TestAddAsWorded(t *testing.T) {
	for i, l := range goodLists() {
		for slot := -2; slot < slots+3; slot++ {
			for dim := 1; dim <= 4; dim++ {
				for _, v := range scattered(uint64(slot*i+500), 2, dim, 40) {
					holdAdd(t, l, slot, v)
				}
			}
		}
		for _, v := range [][]int32{{most}, {least}, {most, least}, {least, least, least}, {most, most, most, most}} {
			holdAdd(t, l, 5, v)
		}
	}
}

// P13.3: written out: the list to which a vector belongs, the first and the last slot, and what is refused.
func TestAddEdges(t *testing.T) {
	two := listed(ones(0, 10), []int{0}, []int{1, 94})
	for _, c := range []struct {
		l    api.Lists
		slot int
		v    []int32
		want api.Lists
		err  api.Errno
	}{
		{two, 2, []int32{5}, listed(ones(0, 10), []int{0, 2}, []int{1, 94}), api.OK},
		{two, 2, []int32{6}, listed(ones(0, 10), []int{0}, []int{1, 2, 94}), api.OK},
		{two, 95, []int32{most}, listed(ones(0, 10), []int{0}, []int{1, 94, 95}), api.OK},
		{two, 63, []int32{least}, listed(ones(0, 10), []int{0, 63}, []int{1, 94}), api.OK},
		{two, 64, []int32{0}, listed(ones(0, 10), []int{0, 64}, []int{1, 94}), api.OK},
		{listed(ones(0, 10)), 0, []int32{9}, listed(ones(0, 10), nil, []int{0}), api.OK},
		{listed(ones(7, 7, 7)), 0, []int32{9}, listed(ones(7, 7, 7), []int{0}), api.OK},
		{listed(ones(0, 7, 7)), 0, []int32{9}, listed(ones(0, 7, 7), nil, []int{0}), api.OK},
		{two, 0, []int32{5}, api.Lists{}, api.ErrArg},
		{two, 1, []int32{5}, api.Lists{}, api.ErrArg},
		{two, 94, []int32{5}, api.Lists{}, api.ErrArg},
		{two, -1, []int32{5}, api.Lists{}, api.ErrArg},
		{two, 96, []int32{5}, api.Lists{}, api.ErrArg},
		{two, 2, nil, api.Lists{}, api.ErrVec},
		{two, 2, []int32{most + 1}, api.Lists{}, api.ErrVec},
		{two, 2, []int32{5, 5}, api.Lists{}, api.ErrDim},
		{two, 0, nil, api.Lists{}, api.ErrArg},
		{two, 0, []int32{5, 5}, api.Lists{}, api.ErrArg},
		{two, 96, nil, api.Lists{}, api.ErrArg},
		{two, 96, []int32{5, 5}, api.Lists{}, api.ErrArg},
		{two, 2, []int32{5, most + 1}, api.Lists{}, api.ErrVec},
		{api.Lists{}, 2, []int32{5, 5}, api.Lists{}, api.OK},
		{api.Lists{}, 95, []int32{5}, api.Lists{}, api.OK},
		{api.Lists{}, 96, []int32{5}, api.Lists{}, api.ErrArg},
		{api.Lists{}, -1, []int32{5}, api.Lists{}, api.ErrArg},
		{api.Lists{}, 2, nil, api.Lists{}, api.ErrVec},
		{api.Lists{}, 2, []int32{1, 2, 3, 4, 5}, api.Lists{}, api.ErrVec},
		{api.Lists{}, 96, nil, api.Lists{}, api.ErrArg},
	} {
		adds(t, c.l, c.slot, c.v, c.want, c.err)
	}
}

// P13.3: numbers that are no slots, and slots that are in a list (at each place), ahead of a vector that may not be and of one of another dimension; that one ahead of its dimension.
func TestAddOfBad(t *testing.T) {
	for dim := 1; dim <= 4; dim++ {
		for n := range maxLists + 1 {
			c := scattered(uint64(n), n, dim, 9)
			l := listed(c)
			taken := badSlots()
			for place := range n {
				l.Masks[place] = maskOf(place, 94-place)
				taken = append(taken, place, 94-place)
			}
			for _, slot := range taken {
				for _, v := range append(badVecs(), make([]int32, dim), other(dim)) {
					adds(t, l, slot, v, api.Lists{}, api.ErrArg)
				}
			}
			for _, slot := range []int{50, 63, 64, 95} {
				for _, v := range badVecs() {
					adds(t, l, slot, v, api.Lists{}, api.ErrVec)
				}
				for far := 1; far <= 4; far++ {
					holdAdd(t, l, slot, make([]int32, far))
				}
			}
		}
	}
}

// P13.3: lists that may not be, ahead of each other wrong, and of several.
func TestChangesOfBadLists(t *testing.T) {
	for _, l := range badLists() {
		for _, slot := range []int{5, 0, 95, -1, 96} {
			for _, v := range [][]int32{{5}, {5, 6}, {1, 2, 3}, nil, {most + 1}, {1, 2, 3, 4, 5}} {
				adds(t, l, slot, v, api.Lists{}, api.ErrLists)
			}
		}
		for _, gone := range [][]int{nil, {}, {0}, {5, 64}, spread(0, slots, 1), {-1}, {96}, {3, 127}} {
			removes(t, l, gone, api.Lists{}, api.ErrLists)
		}
	}
}

// P13.3: no slots, each one, several, all, one twice, of lists of all kinds.
func TestRemoveAsWorded(t *testing.T) {
	for i, l := range goodLists() {
		next := random(uint64(i))
		holdRemove(t, l)
		for slot := -1; slot <= slots; slot++ {
			holdRemove(t, l, slot)
			holdRemove(t, l, slot, slot)
			holdRemove(t, l, slot, next(slots), next(slots))
		}
		holdRemove(t, l, spread(0, slots, 1)...)
		holdRemove(t, l, spread(1, slots, 2)...)
		holdRemove(t, l, spread(0, 64, 1)...)
		holdRemove(t, l, append(spread(0, slots, 3), spread(0, slots, 2)...)...)
	}
}

// P13.3: written out: what is in a list, in no list, and without centroids.
func TestRemoveEdges(t *testing.T) {
	two := listed(ones(0, 10), []int{0, 63, 64}, []int{1, 95})
	for _, c := range []struct {
		l    api.Lists
		gone []int
		want api.Lists
		err  api.Errno
	}{
		{two, nil, two, api.OK},
		{two, []int{}, two, api.OK},
		{two, []int{0}, listed(ones(0, 10), []int{63, 64}, []int{1, 95}), api.OK},
		{two, []int{95}, listed(ones(0, 10), []int{0, 63, 64}, []int{1}), api.OK},
		{two, []int{95, 0}, listed(ones(0, 10), []int{63, 64}, []int{1}), api.OK},
		{two, []int{95, 95}, listed(ones(0, 10), []int{0, 63, 64}, []int{1}), api.OK},
		{two, []int{2, 94}, two, api.OK},
		{two, []int{2, 64, 94}, listed(ones(0, 10), []int{0, 63}, []int{1, 95}), api.OK},
		{two, []int{0, 1, 63, 64, 95}, listed(ones(0, 10)), api.OK},
		{two, []int{96}, api.Lists{}, api.ErrArg},
		{two, []int{0, 96}, api.Lists{}, api.ErrArg},
		{two, []int{-1, 0}, api.Lists{}, api.ErrArg},
		{api.Lists{}, nil, api.Lists{}, api.OK},
		{api.Lists{}, []int{5}, api.Lists{}, api.OK},
		{api.Lists{}, []int{-1}, api.Lists{}, api.ErrArg},
		{api.Lists{}, []int{5, 96}, api.Lists{}, api.ErrArg},
	} {
		removes(t, c.l, c.gone, c.want, c.err)
	}
}

// P13.3: a number that is no slot, first, in the middle and last among slots: nothing is changed.
func TestRemoveOfBadSlots(t *testing.T) {
	for _, l := range goodLists() {
		before := ownLists(l)
		for _, bad := range badSlots() {
			for _, gone := range [][]int{{bad}, {bad, 5}, {5, bad}, {0, bad, 64}, {0, 0, 1, 95, bad}, append(spread(0, slots, 1), bad), {bad, bad}} {
				removes(t, l, gone, api.Lists{}, api.ErrArg)
			}
		}
		if !wordedSame(l, before) {
			t.Errorf("%v is %v now", before, l)
		}
	}
	removes(t, listed(ones(5), []int{3}), slices.Repeat([]int{3}, 5000), listed(ones(5)), api.OK)
}
