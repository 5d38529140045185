package writes

import (
	"math"
	"slices"
	"testing"

	"quiver/api"
)

// both are whether a row is there without the transaction.
func both() []bool {
	return []bool{true, false}
}

// P16.2: each of a few lists, with each row that stands ahead of, between, behind and in the place of its writes.
func TestDelAsWorded(t *testing.T) {
	answered := map[api.Errno]int{}
	for _, l := range small() {
		for coll := range colls {
			for _, id := range []uint64{0, 2, 3, 4, 5, 6, 9, 10, greatest} {
				for _, there := range both() {
					answered[delAsWorded(t, l, api.Write{Coll: coll, Id: id}, there)]++
				}
			}
		}
	}
	if answered[api.OK] < 1000 || answered[api.ErrNone] < 1000 {
		t.Errorf("%v", answered)
	}
	for _, l := range goodLists() {
		for _, coll := range []int{-1, 0, 1, 2, 3} {
			for _, id := range append(edgeIds(), 10, 15, 20, 60, 120, 125) {
				for _, there := range both() {
					delAsWorded(t, l, api.Write{Coll: coll, Id: id}, there)
				}
			}
		}
	}
}

// P16.2: a row that is written, one that is written and gone, and one that is not written, there and not, written out.
func TestDelPlaces(t *testing.T) {
	a, b, c := put(0, 5, 1), gone(1, 4), put(1, 8, 3)
	l := []api.Write{a, b, c}
	dels(t, nil, gone(1, 5), true, []api.Write{gone(1, 5)}, api.OK)
	dels(t, nil, gone(1, 5), false, nil, api.ErrNone)
	dels(t, []api.Write{}, gone(2, 0), true, []api.Write{gone(2, 0)}, api.OK)
	dels(t, l, gone(0, 0), true, []api.Write{gone(0, 0), a, b, c}, api.OK)
	dels(t, l, gone(0, 6), true, []api.Write{a, gone(0, 6), b, c}, api.OK)
	dels(t, l, gone(0, 6), false, nil, api.ErrNone)
	dels(t, l, gone(1, 0), true, []api.Write{a, gone(1, 0), b, c}, api.OK)
	dels(t, l, gone(1, 5), true, []api.Write{a, b, gone(1, 5), c}, api.OK)
	dels(t, l, gone(1, 5), false, nil, api.ErrNone)
	dels(t, l, gone(1, greatest), true, []api.Write{a, b, c, gone(1, greatest)}, api.OK)
	dels(t, l, gone(2, 4), true, []api.Write{a, b, c, gone(2, 4)}, api.OK)
	dels(t, l, gone(2, 4), false, nil, api.ErrNone)
	// What is put is gone, or is not written any more.
	dels(t, l, gone(0, 5), true, []api.Write{gone(0, 5), b, c}, api.OK)
	dels(t, l, gone(0, 5), false, []api.Write{b, c}, api.OK)
	dels(t, l, gone(1, 8), true, []api.Write{a, b, gone(1, 8)}, api.OK)
	dels(t, l, gone(1, 8), false, []api.Write{a, b}, api.OK)
	dels(t, []api.Write{c}, gone(1, 8), false, nil, api.OK)
	// What is gone can't go again, whether it is there or not.
	dels(t, l, gone(1, 4), true, nil, api.ErrNone)
	dels(t, l, gone(1, 4), false, nil, api.ErrNone)
	// Other collections are no matter.
	dels(t, l, gone(0, 4), true, []api.Write{gone(0, 4), a, b, c}, api.OK)
	dels(t, l, gone(0, 8), false, nil, api.ErrNone)
	dels(t, l, gone(2, 8), false, nil, api.ErrNone)
	dels(t, l, gone(2, 8), true, []api.Write{a, b, c, gone(2, 8)}, api.OK)
}

// P16.2: of what is handed in as the row Gone and Vec count for nothing.
func TestDelByRowAlone(t *testing.T) {
	vectors := slices.Concat([][]int32{{7}, {1, 2}}, badVecs())
	for _, l := range slices.Concat(each(gone(0, 3), gone(0, 5), gone(1, 5)), [][]api.Write{numbered(full, 0), {put(0, 5)}}) {
		for _, coll := range []int{0, 1, 3} {
			for _, id := range []uint64{3, 4, 5, 10, 20} {
				for _, there := range both() {
					want, err := wordedDel(l, coll, id, there)
					for _, v := range vectors {
						dels(t, l, api.Write{Coll: coll, Id: id, Vec: v}, there, want, err)
						dels(t, l, api.Write{Coll: coll, Id: id, Gone: true, Vec: v}, there, want, err)
					}
				}
			}
		}
	}
}

// P16.2: with as many writes as there may be: a row that is written, and one that is not, there and not.
func TestDelFull(t *testing.T) {
	for _, l := range fullLists() {
		for _, w := range l {
			if w.Gone {
				dels(t, l, w, true, nil, api.ErrNone)
				dels(t, l, w, false, nil, api.ErrNone)
			} else {
				dels(t, l, w, true, with(l, gone(w.Coll, w.Id)), api.OK)
				dels(t, l, w, false, without(l, w.Coll, w.Id), api.OK)
			}
			dels(t, l, gone(w.Coll, w.Id+1), true, nil, api.ErrFull)
			dels(t, l, gone(w.Coll, w.Id+1), false, nil, api.ErrNone)
		}
		for coll := range colls {
			for _, id := range []uint64{0, greatest} {
				dels(t, l, gone(coll, id), true, nil, api.ErrFull)
				dels(t, l, gone(coll, id), false, nil, api.ErrNone)
			}
		}
		one := l[:full-1]
		dels(t, one, gone(2, greatest), true, append(ownWrites(one), gone(2, greatest)), api.OK)
	}
}

// P16.2: there is no such collection, whether a row is there or not.
func TestDelNoCollection(t *testing.T) {
	for _, l := range slices.Concat([][]api.Write{nil}, each(gone(0, 3), gone(1, 3), gone(2, 3)), fullLists()) {
		for _, coll := range append(badColls(), -1, 3, math.MinInt, math.MaxInt) {
			dels(t, l, gone(coll, 3), true, nil, api.ErrArg)
			dels(t, l, put(coll, 3, 7), false, nil, api.ErrArg)
		}
	}
}

// P16.2: of writes that may not be nothing is deleted, not even what would mend them.
func TestDelBadWrites(t *testing.T) {
	for _, l := range badLists() {
		for _, there := range both() {
			dels(t, l, gone(0, 5), there, nil, api.ErrWrites)
			for i, w := range l {
				if i < 5 {
					dels(t, l, w, there, nil, api.ErrWrites)
				}
			}
		}
	}
}

// P16.2, R2: of two errors the first one is answered.
func TestDelTwoErrors(t *testing.T) {
	whole := numbered(full, 0)
	for _, l := range [][]api.Write{{put(0, 5)}, {gone(0, 5), gone(0, 5)}, numbered(full+1, 0)} {
		for _, there := range both() {
			dels(t, l, gone(-1, 5), there, nil, api.ErrWrites)
			dels(t, l, gone(3, 5), there, nil, api.ErrWrites)
			dels(t, l, gone(0, 7), there, nil, api.ErrWrites)
		}
	}
	dels(t, nil, gone(-1, 5), false, nil, api.ErrArg)
	dels(t, nil, gone(3, 5), false, nil, api.ErrArg)
	dels(t, whole, gone(3, 5), true, nil, api.ErrArg)
	dels(t, whole, gone(3, 5), false, nil, api.ErrArg)
	dels(t, whole, gone(-1, 20), true, nil, api.ErrArg)
	dels(t, whole, gone(0, 5), false, nil, api.ErrNone)
	dels(t, whole, gone(0, 20), true, nil, api.ErrNone)
	dels(t, whole, gone(1, 10), false, nil, api.ErrNone)
}
