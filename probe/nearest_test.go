package probe

import (
	"slices"
	"testing"

	"quiver/api"
)

// P14.2 to P14.4: the chapter's examples.
func TestExamples(t *testing.T) {
	c := ones(0, 10, 20)
	nears(t, c, []int32{6}, 2, []int{1, 0}, api.OK)
	nears(t, c, []int32{5}, 9, []int{0, 1, 2}, api.OK)
	l := []api.Row{row(1, 1), row(2, 9), row(3, 12), row(4, 22)}
	rows(t, l, c, probing(3, 1, 0, 6), hits(2, 9, 3, 36), api.OK)
	rows(t, l, c, probing(3, 2, 0, 6), hits(2, 9, 1, 25, 3, 36), api.OK)
	rows(t, l, nil, probing(3, 1, 0, 6), nil, api.ErrUntrained)
	rows(t, l, c, probing(3, 0, 0, 6), nil, api.ErrArg)
	// So, too, of the same rows in an arena.
	a := laid(at(1, 1), at(2, 9), at(3, 12), at(4, 22))
	searches(t, a, listed(c, []int{0}, []int{1, 2}, []int{3}), probing(3, 1, 1, 6), hits(2, 9, 3, 36), api.OK)
	searches(t, a, listed(c, []int{0}, []int{1, 2}, []int{3}), probing(3, 2, 1, 6), hits(2, 9, 1, 25, 3, 36), api.OK)
	searches(t, a, api.Lists{}, probing(3, 1, 1, 6), nil, api.ErrUntrained)
	searches(t, a, listed(c, []int{0}, []int{1, 2}, []int{3}), probing(3, 0, 1, 6), nil, api.ErrArg)
}

// P14.2: centroids of all kinds, of each dimension, asked for by vectors near and far, of their own dimension and of others, and each n.
func TestNearestAsWorded(t *testing.T) {
	told, unlike := 0, 0
	for dim := 1; dim <= 4; dim++ {
		for i, c := range goodCentroids(dim) {
			for _, v := range slices.Concat(goodVecs(), scattered(uint64(i), 5, dim, 2), scattered(uint64(i), 5, dim, 50)) {
				for _, n := range goodNs() {
					want, err := wordedNearest(c, v, n)
					nears(t, c, v, n, want, err)
					if err == api.ErrDim {
						unlike++
					}
					told += len(want)
				}
			}
		}
	}
	if told < 1000 || unlike < 1000 {
		t.Errorf("just %d places, and %d of unlike dimensions", told, unlike)
	}
}

// P14.2: written out: near and far ones, equal ones, and ones that are equally near on both sides, with each n around them.
func TestNearestEdges(t *testing.T) {
	for _, c := range []struct {
		c    [][]int32
		v    []int32
		want []int // of all of them
	}{
		{ones(7), []int32{7}, []int{0}},
		{ones(7), []int32{least}, []int{0}},
		{ones(0, 10, 20), []int32{6}, []int{1, 0, 2}},
		{ones(0, 10, 20), []int32{4}, []int{0, 1, 2}},
		{ones(0, 10, 20), []int32{5}, []int{0, 1, 2}},
		{ones(10, 0, 20), []int32{5}, []int{0, 1, 2}},
		{ones(20, 10, 0), []int32{5}, []int{1, 2, 0}},
		{ones(20, 10, 0), []int32{25}, []int{0, 1, 2}},
		{ones(20, 10, 0), []int32{-25}, []int{2, 1, 0}},
		{ones(0, 10, 20), []int32{10}, []int{1, 0, 2}},
		{ones(20, 10, 0), []int32{10}, []int{1, 0, 2}},
		{ones(5, 5, 5, 5, 5, 5), []int32{7}, []int{0, 1, 2, 3, 4, 5}},
		{ones(9, 1, 5, 5, 1, 9), []int32{5}, []int{2, 3, 0, 1, 4, 5}},
		{ones(4, 6, 4, 6, 4, 6), []int32{5}, []int{0, 1, 2, 3, 4, 5}},
		{ones(4, 6, 4, 6, 4, 6), []int32{6}, []int{1, 3, 5, 0, 2, 4}},
		{ones(8, 2, 6, 4, 5, 5), []int32{5}, []int{4, 5, 2, 3, 0, 1}},
		{ones(6, 5, 4, 3, 2, 1), []int32{0}, []int{5, 4, 3, 2, 1, 0}},
		{ones(most, least), []int32{0}, []int{0, 1}},
		{ones(most, least), []int32{-1}, []int{1, 0}},
		{ones(most, least, most-1), []int32{least}, []int{1, 2, 0}},
		{[][]int32{{0, 5}, {3, 4}, {5, 0}, {0, -5}, {4, 4}, {-4, -3}}, []int32{0, 0}, []int{0, 1, 2, 3, 5, 4}},
		{[][]int32{{4, 4}, {0, 5}, {0, 0}}, []int32{0, 0}, []int{2, 1, 0}},
		{[][]int32{{1, 0, 0}, {0, 1, 0}, {0, 0, 1}}, []int32{0, 0, 9}, []int{2, 0, 1}},
		// What is furthest is just below 2^64, so that no other kind of number is wide enough.
		{[][]int32{{most, most, most, most}, {most, most, most, most - 1}, {least, least, least, least}}, []int32{least, least, least, least}, []int{2, 1, 0}},
		{[][]int32{{most, most, most, most}, {most, most, most, 0}, {most, most, 0, 0}, {most, 0, 0, 0}}, []int32{least, least, least, least}, []int{3, 2, 1, 0}},
	} {
		for n := 1; n <= 9; n++ {
			nears(t, c.c, c.v, n, c.want[:min(n, len(c.want))], api.OK)
		}
		for _, n := range goodNs() {
			nears(t, c.c, c.v, n, c.want[:min(n, len(c.want))], api.OK)
		}
		for _, n := range badNs() {
			nears(t, c.c, c.v, n, nil, api.ErrArg)
		}
	}
}

// P14.2: in all orders of six centroids of which several are equally near, with each n that cuts between them.
func TestNearestOfAllOrders(t *testing.T) {
	orders := [][]int32{{}}
	for _, component := range []int32{5, 6, 4, 7, 3, 5} {
		var next [][]int32
		for _, l := range orders {
			for i := range len(l) + 1 {
				next = append(next, slices.Insert(slices.Clone(l), i, component))
			}
		}
		orders = next
	}
	for _, l := range orders {
		for n := 1; n <= 7; n++ {
			nears(t, ones(l...), []int32{5}, n, wordedPlaces(ones(l...), []int32{5}, n), api.OK)
		}
	}
}

// P14.2: no centroids, nil and empty, and each number of them up to one more than there may be, and far more.
func TestNearestByNumber(t *testing.T) {
	for dim := 1; dim <= 4; dim++ {
		v := make([]int32, dim)
		for _, n := range goodNs() {
			nears(t, nil, v, n, nil, api.ErrUntrained)
			nears(t, [][]int32{}, v, n, nil, api.ErrUntrained)
			nears(t, filled(3, dim, 5)[:0], v, n, nil, api.ErrUntrained)
			for k := 1; k <= maxLists; k++ {
				nears(t, filled(k, dim, 5), v, n, spread(0, min(k, n), 1), api.OK)
				nears(t, filled(7, dim, 5)[:k], v, n, spread(0, min(k, n), 1), api.OK)
			}
			for _, k := range []int{maxLists + 1, maxLists + 2, 96, 256, 258, 5000} {
				nears(t, filled(k, dim, 5), v, n, nil, api.ErrLists)
			}
		}
	}
}

// P14.2: centroids that may not be, at each place, and of unlike dimensions, asked for by vectors of each dimension.
func TestNearestOfBadCentroids(t *testing.T) {
	for i, c := range badCentroids() {
		for dim := 1; dim <= 4; dim++ {
			nears(t, c, make([]int32, dim), goodNs()[i%len(goodNs())], nil, api.ErrLists)
		}
	}
}

// P14.2: a vector of another dimension than the centroids'.
func TestNearestOfUnlikeDimensions(t *testing.T) {
	for dim := 1; dim <= 4; dim++ {
		for far := 1; far <= 4; far++ {
			for _, c := range goodCentroids(dim) {
				for _, n := range []int{1, 6, maxProbe} {
					want, err := wordedNearest(c, make([]int32, far), n)
					if (err == api.ErrDim) != (far != dim) {
						t.Fatal(err)
					}
					nears(t, c, make([]int32, far), n, want, err)
				}
			}
		}
	}
}

// P14.2: of several errors n is told first, then the vector, no centroids, what may not be, the dimension.
func TestNearestOrderOfErrors(t *testing.T) {
	sets := append(fewBadCentroids(), nil, [][]int32{}, ones(5), ones(5, 6), [][]int32{{1, 2}, {3, 4}})
	for _, n := range badNs() {
		for _, v := range append(fewBadVecs(), []int32{5}, []int32{5, 6}) {
			for _, c := range sets {
				nears(t, c, v, n, nil, api.ErrArg)
			}
		}
	}
	for _, n := range goodNs() {
		for _, v := range badVecs() {
			for _, c := range sets {
				nears(t, c, v, n, nil, api.ErrVec)
			}
		}
		for _, v := range goodVecs() {
			nears(t, nil, v, n, nil, api.ErrUntrained)
			for _, c := range fewBadCentroids() {
				nears(t, c, v, n, nil, api.ErrLists)
			}
			nears(t, [][]int32{other(len(v))}, v, n, nil, api.ErrDim)
		}
	}
}
