package writes

import (
	"slices"
	"testing"

	"quiver/api"
)

// P16.3: each write is found by its row, and no other row.
func TestFindAsWorded(t *testing.T) {
	found := 0
	for _, l := range goodLists() {
		for _, coll := range []int{-1, 0, 1, 2, 3} {
			for _, id := range append(edgeIds(), 3, 5, 9, 10, 11, 60, 120, 130) {
				want, ok := wordedFind(l, coll, id)
				finds(t, l, coll, id, want, ok)
				if ok {
					found++
				}
			}
		}
		for _, w := range l {
			finds(t, l, w.Coll, w.Id, w, true)
		}
	}
	if found < 1000 {
		t.Errorf("just %d are found", found)
	}
}

// P16.3: written out: the first one, one between, the last one, rows that are not written, and those of another collection.
func TestFindEdges(t *testing.T) {
	l := []api.Write{put(0, 5, 7), gone(0, 9), put(1, 5, 8, 9), put(2, greatest, 1)}
	finds(t, l, 0, 5, put(0, 5, 7), true)
	finds(t, l, 0, 9, gone(0, 9), true)
	finds(t, l, 1, 5, put(1, 5, 8, 9), true)
	finds(t, l, 2, greatest, put(2, greatest, 1), true)
	for _, none := range []api.Write{gone(0, 4), gone(0, 6), gone(0, 10), gone(1, 9), gone(1, greatest), gone(2, 5), gone(2, 9), gone(2, 0), gone(-1, 5), gone(3, 5)} {
		finds(t, l, none.Coll, none.Id, api.Write{}, false)
	}
	finds(t, nil, 0, 0, api.Write{}, false)
	finds(t, []api.Write{}, 0, 5, api.Write{}, false)
	finds(t, []api.Write{gone(0, 0)}, 0, 0, gone(0, 0), true)
	finds(t, []api.Write{gone(0, 0)}, 1, 0, api.Write{}, false)
}

// P16.3: nothing is found in a collection that there is not, nor told of it.
func TestNoCollection(t *testing.T) {
	for _, l := range slices.Concat([][]api.Write{nil}, each(gone(0, 3), gone(1, 3), gone(2, 3)), fullLists()) {
		for _, coll := range badColls() {
			isOf(t, l, coll, nil)
			for _, id := range []uint64{0, 3, 10, greatest} {
				finds(t, l, coll, id, api.Write{}, false)
			}
		}
	}
}

// P16.3: of writes that may not be nothing is told, not even of those that may.
func TestToldOfBadWrites(t *testing.T) {
	for _, l := range badLists() {
		for coll := range colls {
			isOf(t, l, coll, nil)
		}
		for i, w := range l {
			if i < 20 {
				finds(t, l, w.Coll, w.Id, api.Write{}, false)
				isOf(t, l, w.Coll, nil)
			}
		}
		finds(t, l, 0, 5, api.Write{}, false)
	}
}

// P16.3: the writes of each collection, in order; those of all together are all.
func TestOfAsWorded(t *testing.T) {
	for _, l := range goodLists() {
		var all []api.Write
		for coll := range colls {
			isOf(t, l, coll, wordedOf(l, coll))
			all = append(all, Of(l, coll)...)
		}
		if !wordedSame(all, l) {
			t.Errorf("Of(%v): %v together", l, all)
		}
	}
}

// P16.3: written out: all of one collection, one of each, and none.
func TestOfEdges(t *testing.T) {
	a, b, c := put(0, 5, 7), gone(0, 9), put(2, 0, 8, 9)
	isOf(t, []api.Write{a, b, c}, 0, []api.Write{a, b})
	isOf(t, []api.Write{a, b, c}, 1, nil)
	isOf(t, []api.Write{a, b, c}, 2, []api.Write{c})
	isOf(t, nil, 0, nil)
	isOf(t, []api.Write{}, 2, nil)
	for coll := range colls {
		isOf(t, numbered(full, coll), coll, numbered(full, coll))
		isOf(t, numbered(full, coll), (coll+1)%colls, nil)
		isOf(t, numbered(full+1, coll), coll, nil)
		isOf(t, spread(4, 4, 4), coll, numbered(4, coll))
	}
}
