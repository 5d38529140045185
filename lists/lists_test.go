package lists

import (
	"math"
	"slices"
	"testing"

	"quiver/api"
)

// P13.1 to P13.4: the chapter's examples.
func TestExamples(t *testing.T) {
	a := laid(cell(4), cell(9))
	built, err := Build(a, ones(0, 10))
	comes(t, built, err, listed(ones(0, 10), []int{0}, []int{1}), api.OK, "Build")
	isAt(t, built, 1, 1, true)
	isAt(t, built, 5, 0, false)
	added, err := Add(built, 2, []int32{5})
	comes(t, added, err, listed(ones(0, 10), []int{0, 2}, []int{1}), api.OK, "Add")
	adds(t, built, 1, []int32{5}, api.Lists{}, api.ErrArg)
	unites(t, built, []int{0}, maskOf(0), api.OK)
	removed, err := Remove(built, 1)
	comes(t, removed, err, listed(ones(0, 10), []int{0}), api.OK, "Remove")
	isAt(t, removed, 1, 0, false)
	unites(t, built, []int{7}, api.Mask{}, api.ErrArg)
}

// P13.1: lists of all kinds.
func TestCheckAsWorded(t *testing.T) {
	for _, l := range goodLists() {
		checks(t, l, api.OK)
		if !wordedLists(l) {
			t.Errorf("the words say no of %v", l)
		}
	}
	for _, l := range badLists() {
		checks(t, l, api.ErrLists)
		if wordedLists(l) {
			t.Errorf("the words say yes of %v", l)
		}
	}
}

// P13.1: each number of centroids with each number of masks.
func TestCheckOfNumbers(t *testing.T) {
	for n := range maxLists + 3 {
		for k := range maxLists + 3 {
			want := api.ErrLists
			if n == k && n <= maxLists {
				want = api.OK
			}
			checks(t, api.Lists{Centroids: filled(n, 2, 5), Masks: make([]api.Mask, k)}, want)
		}
	}
	checks(t, api.Lists{}, api.OK)
	checks(t, api.Lists{Centroids: [][]int32{}}, api.OK)
	checks(t, api.Lists{Centroids: filled(256, 1, 0), Masks: make([]api.Mask, 256)}, api.ErrLists)
	checks(t, api.Lists{Centroids: filled(256, 1, 0)}, api.ErrLists)
	checks(t, api.Lists{Masks: make([]api.Mask, 256)}, api.ErrLists)
}

// P13.1: each bit of a mask, alone: those from MaxSlots on may not be, at whatever place the mask stands.
func TestCheckOfBits(t *testing.T) {
	for n := 1; n <= maxLists; n++ {
		for place := range n {
			for bit := range 128 {
				want := api.ErrLists
				if bit < slots {
					want = api.OK
				}
				checks(t, masked(listed(filled(n, 3, -1)), place, maskOf(bit)), want)
			}
		}
	}
}

// P13.1: each slot in two masks, at each two places, the first and the last one of several too.
func TestCheckOfCommonSlots(t *testing.T) {
	for n := 2; n <= maxLists; n++ {
		c := scattered(9, n, 1, 50)
		for a := range n {
			for b := range a {
				for slot := range slots {
					one := masked(listed(c), a, maskOf(slot))
					checks(t, one, api.OK)
					checks(t, masked(one, b, maskOf(slot)), api.ErrLists)
					checks(t, masked(one, b, maskOf((slot+1)%slots)), api.OK)
				}
			}
		}
	}
}

// P13.1: components at the bounds, and behind them, of each centroid.
func TestCheckOfComponents(t *testing.T) {
	for n := 1; n <= maxLists; n++ {
		for place := range n {
			for _, dim := range []int{1, 2, 3, 4} {
				for i := range dim {
					l := listed(filled(n, dim, 7))
					for component, want := range map[int32]api.Errno{
						most: api.OK, least: api.OK, most + 1: api.ErrLists, least - 1: api.ErrLists, math.MinInt32: api.ErrLists, math.MaxInt32: api.ErrLists,
					} {
						l.Centroids[place][i] = component
						checks(t, l, want)
					}
				}
			}
		}
	}
	// What stands in the room behind the end is not of the vector, nor of the lists.
	checks(t, api.Lists{Centroids: [][]int32{[]int32{5, most + 1}[:1], nil}[:1], Masks: []api.Mask{maskOf(1), maskOf(1)}[:1]}, api.OK)
}

// same holds what Same answers against what has to come, both ways round.
func same(t *testing.T, a, b api.Lists, want bool) {
	t.Helper()
	if got := Same(a, b); got != want {
		t.Errorf("Same(%v, %v): %v", a, b, got)
	}
	if got := Same(b, a); got != want {
		t.Errorf("Same(%v, %v): %v", b, a, got)
	}
}

// P13.1: nil and none; and lists that differ in a centroid, in a mask, in their order, in how many there are. What may not be is compared as well.
func TestSameEdges(t *testing.T) {
	two := listed(ones(0, 10), []int{0, 64}, []int{1, 95})
	for _, c := range []struct {
		a, b api.Lists
		want bool
	}{
		{api.Lists{}, api.Lists{Centroids: [][]int32{}, Masks: []api.Mask{}}, true},
		{api.Lists{}, api.Lists{Masks: []api.Mask{}}, true},
		{api.Lists{}, api.Lists{Masks: make([]api.Mask, 1)}, false},
		{api.Lists{}, api.Lists{Centroids: ones(0)}, false},
		{api.Lists{}, listed(ones(0)), false},
		{api.Lists{}, two, false},
		{two, two, true},
		{two, ownLists(two), true},
		{two, listed(ones(0, 10)), false},
		{two, listed(ones(0, 11), []int{0, 64}, []int{1, 95}), false},
		{two, listed(ones(10, 0), []int{0, 64}, []int{1, 95}), false},
		{two, listed(ones(0, 10), []int{1, 95}, []int{0, 64}), false},
		{two, listed(ones(10, 0), []int{1, 95}, []int{0, 64}), false},
		{two, listed(ones(0, 10), []int{0}, []int{1, 95}), false},
		{two, listed(ones(0, 10), []int{0, 64}, []int{1}), false},
		{two, listed(ones(0, 10, 10), []int{0, 64}, []int{1, 95}), false},
		{two, listed(ones(0), []int{0, 64}), false},
		{two, listed([][]int32{{0, 0}, {10, 0}}, []int{0, 64}, []int{1, 95}), false},
		{two, api.Lists{Centroids: two.Centroids}, false},
		{two, api.Lists{Masks: two.Masks}, false},
		{api.Lists{Centroids: [][]int32{nil}}, api.Lists{Centroids: [][]int32{{}}}, true},
		{api.Lists{Centroids: [][]int32{{1}, {2, 3}}}, api.Lists{Centroids: [][]int32{{1, 2}, {3}}}, false},
		{masked(two, 1, maskOf(1, 95, 100)), masked(two, 1, maskOf(1, 95, 100)), true},
		{masked(two, 1, maskOf(0)), masked(two, 1, maskOf(0)), true},
		{masked(two, 1, maskOf(0)), masked(two, 1, maskOf(2)), false},
	} {
		same(t, c.a, c.b, c.want)
	}
}

// P13.1: all lists with all; and each with one component, one bit, one mask, one centroid changed.
func TestSameAsWorded(t *testing.T) {
	all := append(goodLists(), badLists()[:40]...)
	for _, a := range all {
		for _, b := range all {
			same(t, a, ownLists(b), wordedSame(a, b))
		}
	}
	for _, a := range goodLists() {
		for place := range a.Centroids {
			for i := range a.Centroids[place] {
				b := ownLists(a)
				b.Centroids[place][i] ^= 1 << (i * 5)
				same(t, a, b, false)
			}
			for bit := range slots {
				same(t, a, masked(a, place, api.Mask{a.Masks[place][0] ^ maskOf(bit)[0], a.Masks[place][1] ^ maskOf(bit)[1]}), false)
			}
			b, c := ownLists(a), ownLists(a)
			b.Masks = slices.Delete(b.Masks, place, place+1)
			c.Centroids = slices.Delete(c.Centroids, place, place+1)
			same(t, a, b, false)
			same(t, a, c, false)
		}
	}
}
