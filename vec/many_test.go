package vec

import (
	"math"
	"math/big"
	"slices"
	"testing"

	"quiver/api"
)

// near holds what Nearest answers against the place that has to come.
func near(t *testing.T, l [][]int32, v []int32, want int) {
	t.Helper()
	if got, err := Nearest(l, v); err != api.OK || got != want {
		t.Errorf("Nearest(%v, %v): %d, %d, not %d", l, v, got, err, want)
	}
}

// notNear holds what Nearest answers against an error, with nothing beside it.
func notNear(t *testing.T, l [][]int32, v []int32, want api.Errno) {
	t.Helper()
	if got, err := Nearest(l, v); err != want || got != 0 {
		t.Errorf("Nearest(%v, %v): %d, %d, not %d", l, v, got, err, want)
	}
}

// means holds what Mean answers against the mean that has to come.
func means(t *testing.T, l [][]int32, want []int32) {
	t.Helper()
	if got, err := Mean(l); err != api.OK || !slices.Equal(got, want) {
		t.Errorf("Mean(%v): %v, %d, not %v", l, got, err, want)
	}
}

// meansNot holds what Mean answers against an error, with nothing beside it.
func meansNot(t *testing.T, l [][]int32, want api.Errno) {
	t.Helper()
	if got, err := Mean(l); err != want || len(got) != 0 {
		t.Errorf("Mean(%v): %v, %d, not %d", l, got, err, want)
	}
}

// put is l, with another vector at a place.
func put(l [][]int32, place int, v []int32) [][]int32 {
	m := slices.Clone(l)
	m[place] = v
	return m
}

// moreBad are the bad ones that differ in kind: none, too many components, and beyond the bounds.
func moreBad() [][]int32 {
	return [][]int32{nil, {}, filled(5, 0), {most + 1}, {0, least - 1}, {0, 0, math.MinInt32}, {math.MaxInt32, 0, 0, 0}}
}

// P5.3: the chapter's examples.
func TestManyExamples(t *testing.T) {
	near(t, [][]int32{{0, 0}, {3, 0}, {0, 3}}, []int32{2, 2}, 1)
	means(t, [][]int32{{1}, {2}, {-4}}, []int32{-1})
}

// P5.3: of no vectors, whatever else there is.
func TestManyOfNone(t *testing.T) {
	for _, l := range [][][]int32{nil, {}} {
		for _, v := range all() {
			notNear(t, l, v, api.ErrNone)
		}
		meansNot(t, l, api.ErrNone)
	}
	// The vectors behind the end do not count.
	l := [][]int32{{1}, {2, 3}, nil}
	notNear(t, l[:0], []int32{1}, api.ErrNone)
	meansNot(t, l[:0], api.ErrNone)
}

// P5.3: of one vector.
func TestManyOfOne(t *testing.T) {
	for dim := 1; dim <= api.MaxDim; dim++ {
		for _, a := range good(dim) {
			for _, v := range good(dim) {
				near(t, [][]int32{a}, v, 0)
			}
			means(t, [][]int32{a}, a)
		}
	}
}

// P5.3: one that may not be, at each place and in v.
func TestManyOfBad(t *testing.T) {
	for dim := 1; dim <= api.MaxDim; dim++ {
		l := good(dim)
		for _, v := range bad() {
			notNear(t, l, v, api.ErrVec)
			notNear(t, l[:1], v, api.ErrVec)
			meansNot(t, [][]int32{v}, api.ErrVec)
			meansNot(t, [][]int32{v, v}, api.ErrVec)
			notNear(t, [][]int32{v}, v, api.ErrVec)
		}
		for place := range l {
			for _, v := range moreBad() {
				notNear(t, put(l, place, v), l[0], api.ErrVec)
				notNear(t, put(l, place, v), v, api.ErrVec)
				meansNot(t, put(l, place, v), api.ErrVec)
			}
		}
	}
}

// P5.3: one of another dimension, at each place and in v.
func TestManyOfUnlikeDimensions(t *testing.T) {
	for dim := 1; dim <= api.MaxDim; dim++ {
		l := good(dim)
		for other := 1; other <= api.MaxDim; other++ {
			if other == dim {
				continue
			}
			v := filled(other, 1)
			notNear(t, l, v, api.ErrDim)
			notNear(t, l[:1], v, api.ErrDim)
			for place := range l {
				notNear(t, put(l, place, v), l[0], api.ErrDim)
				notNear(t, put(l, place, v), v, api.ErrDim)
				meansNot(t, put(l, place, v), api.ErrDim)
			}
			meansNot(t, [][]int32{l[0], v}, api.ErrDim)
			meansNot(t, [][]int32{v, l[0]}, api.ErrDim)
		}
	}
}

// P5.3: both faults, the one at each place and the other one at each further place: ErrVec goes ahead.
func TestManyOfBoth(t *testing.T) {
	l := [][]int32{{1, 2}, {3, 4}, {5, 6}, {7, 8}}
	for _, v := range moreBad() {
		for _, w := range [][]int32{{1}, {1, 2, 3}, {1, 2, 3, 4}} {
			for i := range l {
				notNear(t, put(l, i, w), v, api.ErrVec)
				notNear(t, put(l, i, v), w, api.ErrVec)
				for j := range l {
					if i != j {
						notNear(t, put(put(l, i, v), j, w), l[0], api.ErrVec)
						meansNot(t, put(put(l, i, v), j, w), api.ErrVec)
					}
				}
			}
			notNear(t, [][]int32{v}, w, api.ErrVec)
			notNear(t, [][]int32{w}, v, api.ErrVec)
		}
	}
}

// nearestWorded is the place as the chapter words it, by whole numbers without a bound.
func nearestWorded(l [][]int32, v []int32) int {
	for place, a := range l {
		if !slices.ContainsFunc(l, func(b []int32) bool { return worded(b, v).Cmp(worded(a, v)) < 0 }) {
			return place
		}
	}
	return -1
}

// P5.3: the nearest of all that there are, as the chapter words it, turned so that each one stands at each place.
func TestNearestAsWorded(t *testing.T) {
	for dim := 1; dim <= api.MaxDim; dim++ {
		l := good(dim)
		for turn := range l {
			turned := slices.Concat(l[turn:], l[:turn])
			for _, v := range append(good(dim), filled(dim, 4), filled(dim, 1<<28), filled(dim, -1<<28)) {
				near(t, turned, v, nearestWorded(turned, v))
			}
		}
	}
}

// P5.3: the one nearest, at each place among others that are further, and rows that come nearer and go further.
func TestNearestAtEachPlace(t *testing.T) {
	for _, n := range []int{1, 2, 3, 7} {
		for place := range n {
			l := slices.Repeat([][]int32{{10, -10}}, n)
			near(t, put(l, place, []int32{9, -10}), []int32{0, 0}, place)
			near(t, put(l, place, []int32{-9, 9}), []int32{0, 0}, place)
			var steps [][]int32
			for i := range n {
				steps = append(steps, []int32{int32(5 * (i - place)), 3})
			}
			near(t, steps, []int32{0, 0}, place)
			near(t, steps, []int32{2, 3}, place)
		}
	}
}

// P5.3: several that are equally near, at each two places: the first one.
func TestNearestOfSeveral(t *testing.T) {
	for _, n := range []int{2, 3, 6} {
		for i := range n {
			for j := range n {
				l := slices.Repeat([][]int32{{9, 9, 9}}, n)
				near(t, put(put(l, i, []int32{0, 1, 2}), j, []int32{0, 1, 2}), []int32{0, 0, 0}, min(i, j))
				near(t, put(put(l, i, []int32{-2, 0, 1}), j, []int32{1, -2, 0}), []int32{0, 0, 0}, min(i, j))
				near(t, put(put(l, i, []int32{0, 0, 0}), j, []int32{0, 0, 0}), []int32{0, 0, 0}, min(i, j))
			}
		}
		near(t, slices.Repeat([][]int32{{9, 9, 9}}, n), []int32{0, 0, 0}, 0)
		near(t, slices.Repeat([][]int32{{9, 9, 9}}, n), []int32{9, 9, 9}, 0)
	}
}

// P5.3: distances that differ in their lowest or in their highest bits alone.
func TestNearestOfTheFurthest(t *testing.T) {
	v := filled(4, most)
	low := filled(4, least)
	for place := range 4 {
		near(t, [][]int32{low, with(low, place, least+1)}, v, 1)
		near(t, [][]int32{with(low, place, least+1), low}, v, 0)
		near(t, [][]int32{low, low, with(low, place, 0)}, v, 2)
	}
	near(t, [][]int32{low, {least, least, 0, 0}, {0, least, 0, 0}, {0, least, 0, 1}, v}, v, 4)
	near(t, [][]int32{{0}, {1}, {-1}}, []int32{most}, 1)
	near(t, [][]int32{{0}, {1}, {-1}}, []int32{least}, 2)
}

// meanWorded is the mean as the chapter words it, by whole numbers without a bound.
func meanWorded(l [][]int32) []int32 {
	var mean []int32
	for i := range l[0] {
		sum := new(big.Int)
		for _, v := range l {
			sum.Add(sum, big.NewInt(int64(v[i])))
		}
		// Of a divisor above 0 Div rounds down.
		mean = append(mean, int32(sum.Div(sum, big.NewInt(int64(len(l)))).Int64()))
	}
	return mean
}

// P5.3: means of all beginnings and ends of what may be, as the chapter words them.
func TestMeanAsWorded(t *testing.T) {
	for dim := 1; dim <= api.MaxDim; dim++ {
		l := good(dim)
		for i := range l {
			means(t, l[i:], meanWorded(l[i:]))
			means(t, l[:i+1], meanWorded(l[:i+1]))
			for j := range l {
				pair := [][]int32{l[i], l[j]}
				means(t, pair, meanWorded(pair))
				three := [][]int32{l[i], l[j], l[(i+j)%len(l)]}
				means(t, three, meanWorded(three))
			}
		}
	}
}

// P5.3: sums around 0 and what they are divided by, above and below: those that divide, and those that do not.
func TestMeanOfEachSum(t *testing.T) {
	for n := 1; n <= 7; n++ {
		for sum := -3 * n; sum <= 3*n; sum++ {
			l := slices.Repeat([][]int32{{0, 5}}, n)
			l = put(l, n/2, []int32{int32(sum), 5})
			down := int32(math.Floor(float64(sum) / float64(n)))
			means(t, l, []int32{down, 5})
		}
	}
}

// P5.3: means written out.
func TestMeanEdges(t *testing.T) {
	for _, c := range []struct {
		l    [][]int32
		want []int32
	}{
		{[][]int32{{0}}, []int32{0}},
		{[][]int32{{1}, {2}}, []int32{1}},
		{[][]int32{{-1}, {-2}}, []int32{-2}},
		{[][]int32{{-1}, {0}}, []int32{-1}},
		{[][]int32{{1}, {0}}, []int32{0}},
		{[][]int32{{-3}, {3}}, []int32{0}},
		{[][]int32{{-4}, {-2}}, []int32{-3}},
		{[][]int32{{-1}, {0}, {0}}, []int32{-1}},
		{[][]int32{{-1}, {-1}, {0}}, []int32{-1}},
		{[][]int32{{-2}, {-2}, {0}}, []int32{-2}},
		{[][]int32{{1}, {1}, {0}}, []int32{0}},
		{[][]int32{{1, -1, 3, -3}, {2, -2, 3, -4}}, []int32{1, -2, 3, -4}},
		{[][]int32{{most}, {most}}, []int32{most}},
		{[][]int32{{least}, {least}}, []int32{least}},
		{[][]int32{{most, least}, {least, most}}, []int32{0, 0}},
		{[][]int32{{most}, {most - 1}}, []int32{most - 1}},
		{[][]int32{{least}, {least + 1}}, []int32{least}},
		{[][]int32{{most, 0}, {least, 0}, {-1, 1}}, []int32{-1, 0}},
	} {
		means(t, c.l, c.want)
	}
}

// P5.3: many of the greatest and of the least components: no sum is too great.
func TestMeanOfMany(t *testing.T) {
	for _, n := range []int{3, 4, 5, 8, 9, 96, 10000} {
		for dim := 1; dim <= api.MaxDim; dim++ {
			high, low := slices.Repeat([][]int32{filled(dim, most)}, n), slices.Repeat([][]int32{filled(dim, least)}, n)
			means(t, high, filled(dim, most))
			means(t, low, filled(dim, least))
			means(t, slices.Concat(high, low), filled(dim, 0))
			means(t, append(high, filled(dim, most-1)), filled(dim, most-1))
			means(t, append(low, filled(dim, least+1)), filled(dim, least))
		}
	}
}

// rows are vectors of one dimension, with room behind the end of each and behind the end of all.
func rows(dim int) [][]int32 {
	var l [][]int32
	for _, v := range good(dim) {
		l = append(l, cut(v, 1, math.MaxInt32))
	}
	return append(l, nil, []int32{math.MinInt32})[:len(l)]
}

// whole is a copy of rows, with the room behind each end.
func whole(l [][]int32) [][]int32 {
	var m [][]int32
	for _, v := range l[:cap(l)] {
		m = append(m, slices.Clone(v[:cap(v)]))
	}
	return m
}

// P5.3, R3: what is handed in is not changed, the room behind each end neither, and that room does not count.
func TestManyChangeNothing(t *testing.T) {
	for dim := 1; dim <= api.MaxDim; dim++ {
		l, v := rows(dim), cut(filled(dim, 5), 8, 9)
		longer := api.ErrDim
		if dim == api.MaxDim {
			longer = api.ErrVec
		}
		for _, n := range []int{len(l), len(l) - 1, 1} {
			kept := whole(l)
			near(t, l[:n], v, nearestWorded(good(dim)[:n], filled(dim, 5)))
			notNear(t, l[:n], v[:dim+1], longer)
			means(t, l[:n], meanWorded(good(dim)[:n]))
			if !slices.EqualFunc(whole(l), kept, slices.Equal) {
				t.Errorf("%d of %v were changed: %v", n, kept, whole(l))
			}
			if !slices.Equal(v[:dim+2], append(filled(dim, 5), 8, 9)) {
				t.Errorf("the vector was changed: %v", v[:dim+2])
			}
		}
	}
}

// P5.3, R3: a mean is new memory: it shares none with what is handed in, nor with another mean.
func TestMeanNewMemory(t *testing.T) {
	for dim := 1; dim <= api.MaxDim; dim++ {
		for _, n := range []int{1, 2, len(rows(dim))} {
			l := rows(dim)[:n]
			kept, want := whole(l), meanWorded(l)
			mean, _ := Mean(l)
			_ = append(mean, 1, 2, 3)
			clear(mean[:cap(mean)])
			if !slices.EqualFunc(whole(l), kept, slices.Equal) {
				t.Errorf("what is done to a mean is done to %v", kept)
			}
			means(t, l, want)
			mean, _ = Mean(l)
			for _, v := range l {
				clear(v[:cap(v)])
			}
			if !slices.Equal(mean, want) {
				t.Errorf("the mean of %v was kept there: %v", kept, mean)
			}
		}
	}
}
