package means

import (
	"math"
	"slices"
	"testing"

	"quiver/api"
)

// holdParts holds what Parts answers against the chapter's words, and what Assign answers of each vector.
func holdParts(t *testing.T, c, l [][]int32) {
	t.Helper()
	want, err := wordedParts(c, l)
	parts(t, c, l, want, err)
}

// holdAssign holds what Assign answers against the chapter's words.
func holdAssign(t *testing.T, c [][]int32, v []int32) {
	t.Helper()
	want, err := wordedAssign(c, v)
	assigns(t, c, v, want, err)
}

// P12.2: centroids and vectors of each dimension and number.
func TestPartsAsWorded(t *testing.T) {
	for dim := 1; dim <= 4; dim++ {
		for _, c := range goodCentroids(dim) {
			for _, l := range goodVectors(dim) {
				holdParts(t, c, l)
				holdAssign(t, c, l[0])
				holdAssign(t, c, l[len(l)-1])
			}
		}
	}
}

// P12.2: written out: which place is told of equal centroids and of equal distances, and the utmost distances.
func TestPartsEdges(t *testing.T) {
	for _, c := range []struct {
		c, l [][]int32
		want []int
		err  api.Errno
	}{
		{ones(1, 5), ones(3), []int{0}, api.OK},
		{ones(5, 1), ones(3), []int{0}, api.OK},
		{ones(1, 5), ones(2, 3, 4, 5, 1), []int{0, 0, 1, 1, 0}, api.OK},
		{ones(7, 7, 7), ones(7, -9), []int{0, 0}, api.OK},
		{ones(1, 7, 7), ones(7, 8, 4, 3), []int{1, 1, 0, 0}, api.OK},
		{ones(0, 10, 5, 0, 10, 5), ones(0, 10, 5, 2, 3, 7, 8), []int{0, 1, 2, 0, 2, 2, 1}, api.OK},
		{ones(most, least), ones(0, 1, -1, most, least), []int{0, 0, 1, 0, 1}, api.OK},
		{ones(least), ones(most), []int{0}, api.OK},
		{[][]int32{{3, 4}, {5, 0}, {0, 5}}, [][]int32{{0, 0}, {5, 1}, {1, 5}}, []int{0, 1, 2}, api.OK},
		{[][]int32{{least, least, least, least}, {least, least, least, least + 1}}, [][]int32{{most, most, most, most}}, []int{1}, api.OK},
		{nil, ones(1), nil, api.ErrArg},
		{[][]int32{}, ones(1), nil, api.ErrArg},
		{ones(1, 2, 3, 4, 5, 6), ones(6, 1), []int{5, 0}, api.OK},
		{ones(1, 2, 3, 4, 5, 6, 7), ones(6, 1), nil, api.ErrArg},
		{ones(1), nil, nil, api.ErrNone},
		{ones(1), [][]int32{}, nil, api.ErrNone},
		{nil, nil, nil, api.ErrArg},
	} {
		parts(t, c.c, c.l, c.want, c.err)
	}
	for place := range lists {
		c := filled(lists, 3, 9)
		c[place][place%3] = 8
		assigns(t, c, []int32{0, 0, 0}, place, api.OK)
	}
}

// badCounts are numbers of centroids that may not be, each of vectors that may be and with one that may not.
func badCounts(dim int) [][][]int32 {
	l := [][][]int32{nil, {}}
	for _, n := range []int{lists + 1, lists + 2, 96, 256, 257, 262, 5000} {
		c := filled(n, dim, 3)
		l = append(l, c, with(c, 0), with(c, n-1, math.MaxInt32), with(c, n/2, make([]int32, dim%4+1)...))
	}
	return l
}

// P12.2: no centroids and too many, ahead of whatever else is wrong.
func TestPartsOfBadCounts(t *testing.T) {
	for dim := 1; dim <= 4; dim++ {
		for _, c := range badCounts(dim) {
			for _, l := range slices.Concat([][][]int32{nil, {}, filled(1, dim, 0), filled(2, dim%4+1, 0), {nil}, {make([]int32, dim), nil}}, tooMany(dim)) {
				parts(t, c, l, nil, api.ErrArg)
			}
			for _, v := range append(badVecs(), make([]int32, dim), make([]int32, dim%4+1)) {
				assigns(t, c, v, 0, api.ErrArg)
			}
		}
	}
}

// P12.2: no vectors, and too many, ahead of what may not be and of unlike dimensions; and each number between.
func TestPartsByNumber(t *testing.T) {
	l := scattered(3, trained, 1, 40)
	for n := 1; n <= trained; n++ {
		holdParts(t, ones(-30, 0, 30), l[:n])
	}
	for _, c := range [][][]int32{ones(1), ones(1, 2, 3, 4, 5, 6), ones(math.MinInt32), {nil}, {{1}, {1, 2}}, {{1, 2}}} {
		parts(t, c, nil, nil, api.ErrNone)
		parts(t, c, [][]int32{}, nil, api.ErrNone)
		for _, l := range tooMany(1) {
			parts(t, c, l, nil, api.ErrLong)
			parts(t, c, with(l, len(l)-1), nil, api.ErrLong)
			parts(t, c, with(l, 0, 5, 5), nil, api.ErrLong)
		}
	}
}

// P12.2: a centroid or a vector that may not be, at each place, and one of another dimension, alone and together.
func TestPartsOfBadVectors(t *testing.T) {
	for dim := 1; dim <= 4; dim++ {
		c, l, v := scattered(1, 3, dim, 9), scattered(2, 5, dim, 9), make([]int32, dim)
		other := make([]int32, dim%4+1)
		for _, bad := range faulty(c) {
			holdParts(t, bad, l)
			holdParts(t, bad, with(l, 4, other...))
			holdParts(t, bad, with(l, 0))
			holdAssign(t, bad, v)
			holdAssign(t, bad, other)
			holdAssign(t, bad, nil)
		}
		for _, bad := range slices.Concat(faulty(l), faulty(l[:1])) {
			holdParts(t, c, bad)
			holdParts(t, c[:1], bad)
			holdParts(t, with(c, 2, other...), bad)
		}
		for _, bad := range badVecs() {
			assigns(t, c, bad, 0, api.ErrVec)
			assigns(t, with(c, 1, other...), bad, 0, api.ErrVec)
		}
	}
}

// P12.2: all centroids are of one dimension, and all vectors, but these are not of theirs.
func TestPartsOfUnlikeDimensions(t *testing.T) {
	for dim := 1; dim <= 4; dim++ {
		for other := 1; other <= 4; other++ {
			want := api.ErrDim
			if dim == other {
				want = api.OK
			}
			if _, err := Assign(filled(2, dim, 0), make([]int32, other)); err != want {
				t.Errorf("%d and %d: %d", dim, other, err)
			}
			if _, err := Parts(filled(2, dim, 0), filled(3, other, 0)); err != want {
				t.Errorf("%d and %d: %d", dim, other, err)
			}
			if _, err := Round(filled(2, dim, 0), filled(3, other, 0)); err != want {
				t.Errorf("%d and %d: %d", dim, other, err)
			}
		}
	}
}
