package means

import (
	"math"
	"testing"

	"quiver/api"
)

// holdRound holds what Round answers against the chapter's words.
func holdRound(t *testing.T, c, l [][]int32) {
	t.Helper()
	want, err := wordedRound(c, l)
	turns(t, c, l, want, err)
}

// P12.3: centroids and vectors of each dimension and number.
func TestRoundAsWorded(t *testing.T) {
	for dim := 1; dim <= 4; dim++ {
		for _, c := range goodCentroids(dim) {
			for _, l := range goodVectors(dim) {
				holdRound(t, c, l)
			}
		}
	}
}

// P12.3: written out: a centroid that is no vector's, one that is all vectors', means that don't come out even on either side of 0, and the utmost components.
func TestRoundEdges(t *testing.T) {
	for _, c := range []struct{ c, l, want [][]int32 }{
		{ones(9, 1), ones(1, 2, 9), ones(9, 1)},
		{ones(0, 0), ones(-1, -2), ones(-2, 0)},
		{ones(0), ones(1, 2), ones(1)},
		{ones(0), ones(-1, 0), ones(-1)},
		{ones(0), ones(-1, 0, 0), ones(-1)},
		{ones(0), ones(1, 1, 0), ones(0)},
		{ones(5), ones(-1, -2, -4), ones(-3)},
		{ones(5), ones(-1, -1, -4), ones(-2)},
		{ones(5), ones(-1, -1, -1), ones(-1)},
		{ones(100, 5, -100), ones(1, 2, 6), ones(100, 3, -100)},
		{ones(0, 10), ones(5, 6, 4), ones(4, 6)},
		{ones(10, 0), ones(5, 6, 4), ones(5, 4)},
		{ones(7, 7, 7, 7, 7, 7), ones(8, 9), ones(8, 7, 7, 7, 7, 7)},
		{ones(most, least), ones(most, most, least, least), ones(most, least)},
		{ones(0), filled(trained, 1, most), ones(most)},
		{ones(0), filled(trained, 1, least), ones(least)},
		{ones(most), ones(most, least), ones(0)},
		{ones(most), ones(most, most, least), ones(357913941)},
		{ones(least), ones(most, least, least), ones(-357913941)},
		{ones(most), ones(most, most-1), ones(most - 1)},
		{ones(most), ones(least, least+1), ones(least)},
		{[][]int32{{0, 0}, {9, 9}}, [][]int32{{1, -1}, {2, -2}, {9, 8}, {8, 9}}, [][]int32{{1, -2}, {8, 8}}},
		{[][]int32{{0, 0, 0, 0}}, [][]int32{{most, least, 1, -1}, {most, least, 2, -2}}, [][]int32{{most, least, 1, -2}}},
	} {
		turns(t, c.c, c.l, c.want, api.OK)
	}
}

// P12.3: a round is of the centroids as they were: those that are moved first do not count for the others.
func TestRoundTogether(t *testing.T) {
	turns(t, ones(0, 4), ones(-9, 1, 3, 5), ones(-4, 4), api.OK)
	turns(t, ones(4, 0), ones(-9, 1, 3, 5), ones(4, -4), api.OK)
}

// P12.3: Parts' errors in their order: too few and too many centroids and vectors, what may not be, unlike dimensions.
func TestRoundOfBad(t *testing.T) {
	for _, c := range badCounts(2) {
		for _, l := range [][][]int32{nil, filled(2, 2, 0), {nil}, {{1}, {1, 2}}, filled(trained+1, 2, 0)} {
			turns(t, c, l, nil, api.ErrArg)
		}
	}
	for _, c := range [][][]int32{ones(1), ones(math.MaxInt32), {{1}, {1, 2}}} {
		turns(t, c, nil, nil, api.ErrNone)
		for _, l := range tooMany(1) {
			turns(t, c, l, nil, api.ErrLong)
			turns(t, c, with(with(l, 1), 2, 1, 2), nil, api.ErrLong)
		}
	}
	for dim := 1; dim <= 4; dim++ {
		c, l := scattered(1, 3, dim, 9), scattered(2, 5, dim, 9)
		for _, bad := range faulty(c) {
			holdRound(t, bad, l)
			holdRound(t, bad, with(l, 4, make([]int32, dim%4+1)...))
		}
		for _, bad := range faulty(l) {
			holdRound(t, c, bad)
			holdRound(t, with(c, 2, make([]int32, dim%4+1)...), bad)
		}
	}
}

// holdTrain holds what Train answers against the chapter's words.
func holdTrain(t *testing.T, l [][]int32, draws []int) {
	t.Helper()
	want, err := wordedTrain(l, draws)
	trains(t, l, draws, want, err)
}

// P12.3: vectors of each dimension and number, by draws of all kinds.
func TestTrainAsWorded(t *testing.T) {
	for dim := 1; dim <= 4; dim++ {
		for i, l := range goodVectors(dim) {
			for j, draws := range goodDraws(len(l)) {
				if i%4 == j%4 || len(l) < 10 {
					holdTrain(t, l, draws)
				}
			}
		}
	}
	for seed := range uint64(2000) {
		holdTrain(t, scattered(seed, 4+int(seed%5), 1, 20), []int{0, 1, 2})
	}
}

// P12.3: written out: all is at rest at once, behind one round, behind four, and only behind more.
func TestTrainEdges(t *testing.T) {
	for _, c := range []struct {
		l     [][]int32
		draws []int
		want  [][]int32
		err   api.Errno
	}{
		{ones(1, 2, 9, 11), []int{0, 1}, ones(1, 10), api.OK},
		{ones(1, 9), []int{0, 1}, ones(1, 9), api.OK},
		{ones(4, 4, 4), []int{2}, ones(4), api.OK},
		{ones(1, 9), []int{0, 2}, ones(9, 1), api.OK}, // 1 1, 5 1, 9 1
		{ones(1, 2), []int{0}, ones(1), api.OK},
		{ones(1, 5), []int{0}, ones(3), api.OK},
		{ones(17, 12, 20, -15, 5), []int{0, 1, 2}, ones(8, -15, 18), api.OK},   // 17 0 20, 14 -5 20, 11 -15 20, 8 -15 18, and so it stays
		{ones(20, 19, 15, 8, 10, -5), []int{0, 1, 2}, ones(19, 12, 1), api.OK}, // 20 19 7, 20 17 4, 19 15 4, 19 12 1; a fifth one: 19 11 -5
		{filled(trained, 4, most), []int{0, 95}, filled(2, 4, most), api.OK},
		{filled(trained, 4, least), []int{maxDraw}, filled(1, 4, least), api.OK},
		{ones(1), nil, nil, api.ErrArg},
		{nil, []int{0}, nil, api.ErrNone},
	} {
		trains(t, c.l, c.draws, c.want, c.err)
	}
}

// P12.3: the example by rounds.
func TestTrainByRounds(t *testing.T) {
	l := ones(1, 2, 9, 11)
	c, err := Start(l, []int{0, 1})
	for _, want := range [][][]int32{ones(1, 2), ones(1, 7), ones(1, 10), ones(1, 10), ones(1, 10)} {
		if err != api.OK || !wordedSame(c, want) {
			t.Errorf("%v, %d, not %v", c, err, want)
		}
		c, err = Round(c, l)
	}
}

// P12.3: Start's errors in their order.
func TestTrainOfBad(t *testing.T) {
	for _, draws := range badDraws() {
		for _, l := range [][][]int32{nil, ones(1, 2), ones(1, most+1), {{1}, {1, 2}}, filled(trained+1, 1, 0)} {
			trains(t, l, draws, nil, api.ErrArg)
		}
	}
	for _, draws := range goodDraws(3) {
		trains(t, nil, draws, nil, api.ErrNone)
		trains(t, [][]int32{}, draws, nil, api.ErrNone)
		for _, l := range tooMany(2) {
			trains(t, l, draws, nil, api.ErrLong)
			trains(t, with(with(l, 0), 1, 5), draws, nil, api.ErrLong)
		}
	}
	for dim := 1; dim <= 4; dim++ {
		for _, n := range []int{1, 2, 5} {
			for _, l := range faulty(scattered(uint64(n), n, dim, 8)) {
				holdTrain(t, l, []int{0})
				holdTrain(t, l, []int{1, n - 1, n / 2})
			}
		}
	}
}
