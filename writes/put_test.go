package writes

import (
	"math"
	"slices"
	"testing"

	"quiver/api"
)

// P16.2: each of a few lists, with each row that stands ahead of, between, behind and in the place of its writes.
func TestPutAsWorded(t *testing.T) {
	for _, l := range small() {
		for coll := range colls {
			for _, id := range []uint64{0, 2, 3, 4, 5, 6, 9, 10, greatest} {
				if err := putAsWorded(t, l, coll, row(id, 70, 71)); err != api.OK {
					t.Errorf("Put(%v, %d, %d): %d", l, coll, id, err)
				}
			}
		}
	}
	for _, l := range goodLists() {
		for _, coll := range []int{-1, 0, 1, 2, 3} {
			for _, id := range append(edgeIds(), 10, 15, 60, 120, 125) {
				putAsWorded(t, l, coll, row(id, 5))
				putAsWorded(t, l, coll, row(id))
			}
		}
	}
}

// P16.2: each place of the order, written out.
func TestPutPlaces(t *testing.T) {
	a, b, c := put(0, 5, 1), gone(1, 4), put(1, 8, 3)
	l := []api.Write{a, b, c}
	x := []int32{7, 8}
	puts(t, nil, 1, row(5, 7, 8), []api.Write{put(1, 5, x...)}, api.OK)
	puts(t, []api.Write{}, 2, row(0, 7, 8), []api.Write{put(2, 0, x...)}, api.OK)
	puts(t, l, 0, row(4, 7, 8), []api.Write{put(0, 4, x...), a, b, c}, api.OK)
	puts(t, l, 0, row(0, 7, 8), []api.Write{put(0, 0, x...), a, b, c}, api.OK)
	puts(t, l, 0, row(6, 7, 8), []api.Write{a, put(0, 6, x...), b, c}, api.OK)
	puts(t, l, 0, row(greatest, 7, 8), []api.Write{a, put(0, greatest, x...), b, c}, api.OK)
	puts(t, l, 1, row(0, 7, 8), []api.Write{a, put(1, 0, x...), b, c}, api.OK)
	puts(t, l, 1, row(5, 7, 8), []api.Write{a, b, put(1, 5, x...), c}, api.OK)
	puts(t, l, 1, row(9, 7, 8), []api.Write{a, b, c, put(1, 9, x...)}, api.OK)
	puts(t, l, 2, row(0, 7, 8), []api.Write{a, b, c, put(2, 0, x...)}, api.OK)
	puts(t, l, 2, row(5, 7, 8), []api.Write{a, b, c, put(2, 5, x...)}, api.OK)
	// A row that is written has the new vector alone, whatever it had, or if it was gone.
	puts(t, l, 0, row(5, 7, 8), []api.Write{put(0, 5, x...), b, c}, api.OK)
	puts(t, l, 1, row(4, 7, 8), []api.Write{a, put(1, 4, x...), c}, api.OK)
	puts(t, l, 1, row(8, 7, 8), []api.Write{a, b, put(1, 8, x...)}, api.OK)
	puts(t, l, 1, row(8, 3), l, api.OK)
}

// P16.2: each vector that may be, and each that may not.
func TestPutVectors(t *testing.T) {
	for _, l := range [][]api.Write{nil, {put(0, 5, 1, 2)}, {gone(0, 5)}, numbered(full, 0)} {
		for _, id := range []uint64{5, 10, 20, 77} {
			for _, v := range goodVecs() {
				putAsWorded(t, l, 0, row(id, v...))
			}
			for _, v := range badVecs() {
				puts(t, l, 0, row(id, v...), nil, api.ErrVec)
			}
		}
	}
}

// P16.2: with as many writes as there may be a row that is written may be put, and no other one.
func TestPutFull(t *testing.T) {
	for _, l := range fullLists() {
		for _, w := range l {
			puts(t, l, w.Coll, row(w.Id, 99), with(l, put(w.Coll, w.Id, 99)), api.OK)
			puts(t, l, w.Coll, row(w.Id+1, 99), nil, api.ErrFull)
			puts(t, l, w.Coll, row(w.Id-1, 99), nil, api.ErrFull)
		}
		for coll := range colls {
			puts(t, l, coll, row(0, 99), nil, api.ErrFull)
			puts(t, l, coll, row(greatest, 99), nil, api.ErrFull)
		}
		one := l[:full-1]
		puts(t, one, 2, row(greatest, 99), append(ownWrites(one), put(2, greatest, 99)), api.OK)
		puts(t, one, 0, row(0, 99), append([]api.Write{put(0, 0, 99)}, one...), api.OK)
	}
}

// P16.2: there is no such collection.
func TestPutNoCollection(t *testing.T) {
	for _, l := range slices.Concat([][]api.Write{nil}, each(gone(0, 3), gone(1, 3), gone(2, 3)), fullLists()) {
		for _, coll := range append(badColls(), -1, 3, math.MinInt, math.MaxInt) {
			puts(t, l, coll, row(3, 7), nil, api.ErrArg)
		}
	}
}

// P16.2: of writes that may not be nothing is put, not even what would mend them.
func TestPutBadWrites(t *testing.T) {
	for _, l := range badLists() {
		puts(t, l, 0, row(5, 7), nil, api.ErrWrites)
		for i, w := range l {
			if i < 5 {
				puts(t, l, w.Coll, row(w.Id, 7), nil, api.ErrWrites)
			}
		}
	}
}

// P16.2, R2: of two errors the first one is answered.
func TestPutTwoErrors(t *testing.T) {
	bad, whole := []api.Write{put(0, 5)}, numbered(full, 0)
	tooMany := numbered(full+1, 0)
	for _, l := range [][]api.Write{bad, tooMany} {
		puts(t, l, -1, row(5, 7), nil, api.ErrWrites)
		puts(t, l, 3, row(5, 7), nil, api.ErrWrites)
		puts(t, l, 0, row(5), nil, api.ErrWrites)
		puts(t, l, 0, row(7, 7), nil, api.ErrWrites)
		puts(t, l, 3, row(5), nil, api.ErrWrites)
	}
	puts(t, nil, -1, row(5), nil, api.ErrArg)
	puts(t, nil, 3, row(5, most+1), nil, api.ErrArg)
	puts(t, whole, 3, row(5, 7), nil, api.ErrArg)
	puts(t, whole, -1, row(5, 7), nil, api.ErrArg)
	puts(t, whole, 3, row(5), nil, api.ErrArg)
	puts(t, whole, 0, row(5), nil, api.ErrVec)
	puts(t, whole, 1, row(10, least-1), nil, api.ErrVec)
	puts(t, whole, 1, row(10, 1, 2, 3, 4, 5), nil, api.ErrVec)
}
