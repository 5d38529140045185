package means

import (
	"math"
	"slices"
	"testing"

	"quiver/api"
)

// holdStart holds what Start answers against the chapter's words.
func holdStart(t *testing.T, l [][]int32, draws []int) {
	t.Helper()
	want, err := wordedStart(l, draws)
	starts(t, l, draws, want, err)
}

// P12.1: vectors of each dimension and number, by draws of all kinds.
func TestStartAsWorded(t *testing.T) {
	for dim := 1; dim <= 4; dim++ {
		for _, l := range goodVectors(dim) {
			for _, draws := range goodDraws(len(l)) {
				holdStart(t, l, draws)
			}
		}
	}
}

// P12.1: written out: a draw below how many vectors there are, at it and above it, one place twice, and each number of draws.
func TestStartEdges(t *testing.T) {
	for _, c := range []struct {
		l     [][]int32
		draws []int
		want  [][]int32
		err   api.Errno
	}{
		{ones(1, 2, 9), []int{2, 3}, ones(9, 1), api.OK},
		{ones(1), nil, nil, api.ErrArg},
		{ones(1), []int{}, nil, api.ErrArg},
		{nil, []int{0}, nil, api.ErrNone},
		{[][]int32{}, []int{0}, nil, api.ErrNone},
		{ones(1), []int{0}, ones(1), api.OK},
		{ones(1), []int{maxDraw}, ones(1), api.OK},
		{ones(1), []int{maxDraw + 1}, nil, api.ErrArg},
		{ones(1), []int{-1}, nil, api.ErrArg},
		{ones(1, 2, 9), []int{1}, ones(2), api.OK},
		{ones(1, 2, 9), []int{2}, ones(9), api.OK},
		{ones(1, 2, 9), []int{3}, ones(1), api.OK},
		{ones(1, 2, 9), []int{4}, ones(2), api.OK},
		{ones(1, 2, 9), []int{maxDraw}, ones(2), api.OK}, // 2^30 is 1 more than a multiple of 3
		{ones(1, 2, 9), []int{maxDraw - 1}, ones(1), api.OK},
		{ones(1, 2, 9), []int{1, 1}, ones(2, 2), api.OK},
		{ones(1, 2, 9), []int{1, 4, 0, 7}, ones(2, 2, 1, 2), api.OK},
		{ones(1, 2), []int{0, 1, 2, 3, 4, 5}, ones(1, 2, 1, 2, 1, 2), api.OK},
		{ones(1, 2), []int{0, 1, 2, 3, 4, 5, 6}, nil, api.ErrArg},
		{ones(1, 2), []int{0, 1, 2, 3, 4, -5}, nil, api.ErrArg},
		{[][]int32{{1, -2}, {most, least}}, []int{1, 0}, [][]int32{{most, least}, {1, -2}}, api.OK},
		{[][]int32{{1, 2, 3, 4}, {5, 6, 7, 8}}, []int{3}, [][]int32{{5, 6, 7, 8}}, api.OK},
	} {
		starts(t, c.l, c.draws, c.want, c.err)
	}
}

// P12.1: draws that may not be, ahead of whatever else is wrong.
func TestStartOfBadDraws(t *testing.T) {
	all := slices.Concat([][][]int32{nil, ones(1, 2), ones(1, most+1), {{1}, {1, 2}}}, tooMany(1), [][][]int32{with(filled(trained+1, 1, 0), 5)})
	for _, draws := range badDraws() {
		for _, l := range all {
			starts(t, l, draws, nil, api.ErrArg)
		}
	}
}

// P12.1: no vectors; one to the most, and one more, which is told ahead of vectors that may not be and of unlike dimensions.
func TestStartByNumber(t *testing.T) {
	for _, draws := range goodDraws(3) {
		starts(t, nil, draws, nil, api.ErrNone)
		starts(t, [][]int32{}, draws, nil, api.ErrNone)
	}
	l := scattered(1, trained, 2, 1000)
	for n := 1; n <= trained; n++ {
		holdStart(t, l[:n], []int{0, n - 1, n, 50, 95, 96})
	}
	for dim := 1; dim <= 4; dim++ {
		for _, l := range tooMany(dim) {
			starts(t, l, []int{0}, nil, api.ErrLong)
			starts(t, with(l, 0), []int{0}, nil, api.ErrLong)
			starts(t, with(l, len(l)-1, math.MaxInt32), []int{0}, nil, api.ErrLong)
			starts(t, with(l, 4, make([]int32, dim%4+1)...), []int{0}, nil, api.ErrLong)
		}
	}
}

// P12.1: vectors that may not be as the first one, a middle one and the last one, drawn or not, and those of two dimensions, alone and together.
func TestStartOfBadVectors(t *testing.T) {
	for dim := 1; dim <= 4; dim++ {
		for _, n := range []int{1, 2, 5, trained} {
			for _, l := range faulty(scattered(uint64(n), n, dim, 8)) {
				holdStart(t, l, []int{0})
				holdStart(t, l, []int{1, n - 1, n / 2})
			}
		}
	}
	starts(t, ones(1, most+1), []int{0}, nil, api.ErrVec)
	starts(t, [][]int32{{1}, {2, 3}, {}}, []int{0}, nil, api.ErrVec)
	starts(t, [][]int32{{1}, {2, 3}}, []int{0}, nil, api.ErrDim)
}
