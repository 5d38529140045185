package lists

import (
	"testing"

	"quiver/api"
)

// P13.1: lists and arenas of all kinds; what is built of an arena agrees with it.
func TestAgreesAsWorded(t *testing.T) {
	arenas, yes := goodArenas(), 0
	for _, l := range goodLists() {
		for _, a := range arenas {
			want := wordedAgrees(l, a)
			agrees(t, l, a, want)
			if built, err := wordedBuild(a, l.Centroids); err == api.OK {
				yes++
				agrees(t, built, a, true)
			}
		}
	}
	if yes < 1000 {
		t.Errorf("just %d agree", yes)
	}
}

// P13.1: written out: which place a vector belongs to, slots that are in no mask, in another one's, and in one though no cell has them.
func TestAgreesEdges(t *testing.T) {
	a := put(laid(cell(4), cell(9)), 95, cell(5))
	for _, c := range []struct {
		l    api.Lists
		want bool
	}{
		{listed(ones(0, 10), []int{0, 95}, []int{1}), true},
		{listed(ones(0, 10), []int{0}, []int{1, 95}), false},
		{listed(ones(10, 0), []int{1, 95}, []int{0}), true},
		{listed(ones(10, 0), []int{1}, []int{0, 95}), false},
		{listed(ones(0, 10), []int{0, 95}), false},
		{listed(ones(0, 10), nil, []int{1}), false},
		{listed(ones(0, 10), []int{0}, []int{1}), false},
		{listed(ones(0, 10), []int{0, 95, 2}, []int{1}), false},
		{listed(ones(0, 10), []int{0, 95}, []int{1, 94}), false},
		{listed(ones(0, 10), []int{0, 95}, []int{1, 96}), false},
		{listed(ones(0, 10), []int{0, 95}, []int{1, 0}), false},
		{listed(ones(0, 10), []int{1}, []int{0, 95}), false},
		{listed(ones(0, 10)), false},
		{listed(ones(7), []int{0, 1, 95}), true},
		{listed(ones(7, 7), []int{0, 1, 95}), true},
		{listed(ones(7, 7), nil, []int{0, 1, 95}), false},
		{listed(ones(0, 10, 5), []int{}, []int{1}, []int{0, 95}), true},
		{listed([][]int32{{0, 0}, {10, 10}}, []int{0, 95}, []int{1}), false},
		{listed([][]int32{{0, 0}, {10, 10}}), false},
		{api.Lists{}, true},
		{api.Lists{Centroids: [][]int32{}, Masks: []api.Mask{}}, true},
		{api.Lists{Masks: make([]api.Mask, 1)}, false},
		{api.Lists{Centroids: ones(0, 10)}, false},
	} {
		agrees(t, c.l, a, c.want)
	}
	// What is not used is in no list, of whatever dimension the centroids are.
	for dim := 1; dim <= 4; dim++ {
		agrees(t, listed(filled(3, dim, 0)), laid(), true)
		agrees(t, listed(filled(3, dim, 0), []int{5}), laid(), false)
	}
}

// P13.1: what agrees, with each slot taken out of its mask, brought to another one, and with each one that no cell has laid in one.
func TestAgreesSlotBySlot(t *testing.T) {
	for dim := 1; dim <= 4; dim++ {
		all := wide(dim, 30)
		for _, a := range []api.Arena{all, thinned(all, spread(0, slots, 2)...), thinned(all, spread(1, slots, 5)...), laid()} {
			l, err := wordedBuild(a, scattered(3, 4, dim, 30))
			if err != api.OK {
				t.Fatal(err)
			}
			agrees(t, l, a, true)
			for slot, c := range a.Cells {
				for place, m := range l.Masks {
					flipped := masked(l, place, api.Mask{m[0] ^ maskOf(slot)[0], m[1] ^ maskOf(slot)[1]})
					agrees(t, flipped, a, false)
					if own, there := wordedWhere(l, slot); there && own != place {
						moved := flipped.Masks[own]
						moved[slot/64] &^= 1 << (slot % 64)
						agrees(t, masked(flipped, own, moved), a, false)
					}
				}
				if c.Used {
					agrees(t, l, put(a, slot, api.Cell{}), false)
					agrees(t, l, put(a, slot, cell(other(dim)...)), false)
				} else {
					agrees(t, l, put(a, slot, cell(make([]int32, dim)...)), false)
				}
			}
		}
	}
}

// P13.1: lists that may not be agree with nothing, and nothing agrees with an arena that may not be, without centroids neither.
func TestAgreesOfBad(t *testing.T) {
	for i, l := range badLists() {
		agrees(t, l, laid(), false)
		agrees(t, l, wide(1+i%4, 9), false)
	}
	for _, a := range badArenas() {
		agrees(t, api.Lists{}, a, false)
		for dim := 1; dim <= 4; dim++ {
			built, _ := wordedBuild(wide(dim, 9), scattered(2, 3, dim, 9))
			agrees(t, built, a, false)
			agrees(t, listed(filled(2, dim, 0)), a, false)
		}
		agrees(t, api.Lists{Masks: make([]api.Mask, 1)}, a, false)
	}
	// A bit that is no slot's is in a mask that may not be, even if all slots are where they belong.
	a := laid(cell(4))
	agrees(t, listed(ones(0, 10), []int{0}, nil), a, true)
	for bit := slots; bit < 128; bit++ {
		agrees(t, listed(ones(0, 10), []int{0, bit}, nil), a, false)
		agrees(t, listed(ones(0, 10), []int{0}, []int{bit}), a, false)
	}
}

// P13.1: what agrees, but for a centroid or a mask too many or too few, and for a centroid that may not be, to which nothing belongs.
func TestAgreesButForOne(t *testing.T) {
	a := wide(1, 50)
	for n := 1; n <= maxLists; n++ {
		// All belong to the first one of several that are equal, so that the other masks have no slots.
		l, _ := wordedBuild(a, filled(n, 1, 0))
		agrees(t, l, a, true)
		more, bare, less := ownLists(l), ownLists(l), ownLists(l)
		more.Centroids, more.Masks = append(more.Centroids, []int32{most}), append(more.Masks, api.Mask{})
		agrees(t, more, a, n < maxLists)
		bare.Masks = append(bare.Masks, api.Mask{})
		agrees(t, bare, a, false)
		less.Masks = less.Masks[:n-1]
		agrees(t, less, a, false)
		for _, v := range [][]int32{nil, {most + 1}, {least - 1}, {most, most}, {1, 2, 3, 4, 5}} {
			more.Centroids[n] = v
			agrees(t, more, a, false)
		}
	}
}

// P13.1: without centroids any arena that may be agrees, whatever dimensions its vectors have.
func TestAgreesWithoutCentroids(t *testing.T) {
	for _, a := range append(goodArenas(), laid(cell(1), cell(1, 2), cell(1, 2, 3), cell(1, 2, 3, 4))) {
		agrees(t, api.Lists{}, a, true)
		agrees(t, api.Lists{Centroids: [][]int32{}}, a, true)
		agrees(t, api.Lists{Masks: []api.Mask{maskOf(0)}}, a, false)
	}
}
