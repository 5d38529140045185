package means

import (
	"math"
	"slices"
	"testing"

	"quiver/api"
)

// Here stands what the chapter says, once more and as plainly as it does, with what is asked of all calls.

const (
	lists   = 6          // how many centroids there are at most
	trained = 96         // how many vectors
	rounds  = 4          // of a training
	maxDraw = 1073741824 // the greatest draw
	most    = 1073741823 // the greatest component
	least   = -most
)

// ones are vectors of one component.
func ones(components ...int32) [][]int32 {
	var l [][]int32
	for _, component := range components {
		l = append(l, []int32{component})
	}
	return l
}

// own is l with memory of its own.
func own(l [][]int32) [][]int32 {
	m := slices.Clone(l)
	for i := range m {
		m[i] = slices.Clone(m[i])
	}
	return m
}

// with is l with another vector at a place.
func with(l [][]int32, place int, v ...int32) [][]int32 {
	m := own(l)
	m[place] = v
	return m
}

// filled are n vectors that have just this component.
func filled(n, dim int, component int32) [][]int32 {
	return own(slices.Repeat([][]int32{slices.Repeat([]int32{component}, dim)}, n))
}

// random answers numbers below a bound that hang on the seed.
func random(seed uint64) func(bound int) int {
	return func(bound int) int {
		seed = seed*6364136223846793005 + 1442695040888963407
		return int(seed >> 33 % uint64(bound))
	}
}

// scattered are n vectors whose components are from -wide to wide.
func scattered(seed uint64, n, dim, wide int) [][]int32 {
	next := random(seed)
	l := filled(n, dim, 0)
	for _, v := range l {
		for i := range v {
			v[i] = int32(next(2*wide+1) - wide)
		}
	}
	return l
}

func wordedVec(v []int32) bool {
	tooFar := func(component int32) bool { return component < least || component > most }
	return len(v) >= 1 && len(v) <= 4 && !slices.ContainsFunc(v, tooFar)
}

// wordedAll is what is told of vectors together.
func wordedAll(l ...[]int32) api.Errno {
	for _, v := range l {
		if !wordedVec(v) {
			return api.ErrVec
		}
	}
	for _, v := range l {
		for _, w := range l {
			if len(v) != len(w) {
				return api.ErrDim
			}
		}
	}
	return api.OK
}

func wordedCount(l [][]int32) api.Errno {
	switch {
	case len(l) == 0:
		return api.ErrNone
	case len(l) > trained:
		return api.ErrLong
	}
	return api.OK
}

// first is the first error of several; OK, if none is one.
func first(l ...api.Errno) api.Errno {
	for _, err := range l {
		if err != api.OK {
			return err
		}
	}
	return api.OK
}

func wordedDraws(draws []int) api.Errno {
	if len(draws) < 1 || len(draws) > lists {
		return api.ErrArg
	}
	for _, draw := range draws {
		if draw < 0 || draw > maxDraw {
			return api.ErrArg
		}
	}
	return api.OK
}

func wordedStart(l [][]int32, draws []int) ([][]int32, api.Errno) {
	if err := first(wordedDraws(draws), wordedCount(l), wordedAll(l...)); err != api.OK {
		return nil, err
	}
	var c [][]int32
	for _, draw := range draws {
		c = append(c, l[draw%len(l)])
	}
	return c, api.OK
}

func wordedDist(v, w []int32) uint64 {
	sum := uint64(0)
	for i := range v {
		apart := uint64(int64(max(v[i], w[i])) - int64(min(v[i], w[i])))
		sum += apart * apart
	}
	return sum
}

// wordedNearest is the place of the one than which none is nearer, and none ahead of it is as near.
func wordedNearest(c [][]int32, v []int32) int {
	best := 0
	for i := range c {
		if wordedDist(c[i], v) < wordedDist(c[best], v) {
			best = i
		}
	}
	return best
}

func wordedLists(c [][]int32) api.Errno {
	if len(c) < 1 || len(c) > lists {
		return api.ErrArg
	}
	return api.OK
}

func wordedAssign(c [][]int32, v []int32) (int, api.Errno) {
	if err := first(wordedLists(c), wordedAll(append(own(c), v)...)); err != api.OK {
		return 0, err
	}
	return wordedNearest(c, v), api.OK
}

func wordedParts(c, l [][]int32) ([]int, api.Errno) {
	if err := first(wordedLists(c), wordedCount(l), wordedAll(append(own(c), l...)...)); err != api.OK {
		return nil, err
	}
	var places []int
	for _, v := range l {
		places = append(places, wordedNearest(c, v))
	}
	return places, api.OK
}

// wordedMean is the one of l's vectors for which in says so, and how many these are.
func wordedMean(l [][]int32, in func(v []int32) bool) ([]int32, int) {
	mean, n := make([]int32, len(l[0])), 0
	for _, v := range l {
		if in(v) {
			n++
		}
	}
	for i := range mean {
		sum := int64(0)
		for _, v := range l {
			if in(v) {
				sum += int64(v[i])
			}
		}
		if n > 0 {
			mean[i] = int32(math.Floor(float64(sum) / float64(n)))
		}
	}
	return mean, n
}

func wordedRound(c, l [][]int32) ([][]int32, api.Errno) {
	if _, err := wordedParts(c, l); err != api.OK {
		return nil, err
	}
	next := own(c)
	for place := range c {
		mean, n := wordedMean(l, func(v []int32) bool { return wordedNearest(c, v) == place })
		if n > 0 {
			next[place] = mean
		}
	}
	return next, api.OK
}

func wordedTrain(l [][]int32, draws []int) ([][]int32, api.Errno) {
	c, err := wordedStart(l, draws)
	if err != api.OK {
		return nil, err
	}
	for range rounds {
		c, _ = wordedRound(c, l)
	}
	return c, api.OK
}

func wordedSame(a, b [][]int32) bool {
	if len(a) != len(b) {
		return false
	}
	for i := range a {
		if !slices.Equal(a[i], b[i]) {
			return false
		}
	}
	return true
}

// badVecs are vectors that may not be: of no components, of too many, and with one beyond the bounds at each place.
func badVecs() [][]int32 {
	l := [][]int32{nil, {}, {1, 2, 3, 4, 5}, make([]int32, 256), make([]int32, 257)}
	for dim := 1; dim <= 4; dim++ {
		for place := range dim {
			for _, component := range []int32{most + 1, least - 1, math.MaxInt32, math.MinInt32} {
				v := make([]int32, dim)
				v[place] = component
				l = append(l, v)
			}
		}
	}
	return l
}

// goodVectors are some that may be, all of that dimension: few and many, all the same, near one another, and the utmost ones.
func goodVectors(dim int) [][][]int32 {
	l := [][][]int32{filled(1, dim, 0), filled(1, dim, most), filled(2, dim, least), filled(trained, dim, most), filled(trained, dim, least), filled(trained, dim, -7)}
	for i, n := range []int{1, 2, 3, 5, 10, 30, trained - 1, trained} {
		for _, wide := range []int{1, 3, 50, most} {
			l = append(l, scattered(uint64(100*i+wide), n, dim, wide))
		}
	}
	return l
}

// goodCentroids are some that may be, all of that dimension: one to all, all the same, near, and far from everything.
func goodCentroids(dim int) [][][]int32 {
	l := [][][]int32{filled(1, dim, 0), filled(lists, dim, 0), filled(2, dim, most), filled(lists, dim, least), append(filled(1, dim, least), filled(2, dim, most)...)}
	for n := 1; n <= lists; n++ {
		for _, wide := range []int{1, 4, 60, most} {
			l = append(l, scattered(uint64(7000*n+wide), n, dim, wide))
		}
	}
	return l
}

// goodDraws are some that may be: one to all, the same ones, the utmost ones, and those around how many vectors there are.
func goodDraws(n int) [][]int {
	l := [][]int{{0}, {1}, {maxDraw}, {maxDraw - 1}, {n - 1}, {n}, {n + 1}, {2*n - 1}, {0, 0}, {0, n}, {n, 0, 1}, {0, maxDraw, 0, maxDraw}, slices.Repeat([]int{2}, lists), {0, 1, 2, 3, 4, 5}, {5, 4, 3, 2, 1, 0}}
	next := random(uint64(n))
	for k := 1; k <= lists; k++ {
		draws := make([]int, k)
		for i := range draws {
			draws[i] = next(maxDraw + 1)
		}
		l = append(l, draws)
	}
	return l
}

// badDraws are none, too many, and some of which one is out of range, at each place.
func badDraws() [][]int {
	l := [][]int{nil, {}, make([]int, lists+1), make([]int, 256), make([]int, 257), make([]int, 5000)}
	for n := 1; n <= lists; n++ {
		for place := range n {
			for _, draw := range []int{-1, -2, -96, math.MinInt32, math.MinInt, maxDraw + 1, maxDraw + 96, math.MaxInt32, 1 << 32, 1<<32 + 1, math.MaxInt} {
				draws := make([]int, n)
				draws[place] = draw
				l = append(l, draws)
			}
		}
	}
	return l
}

// faulty are vectors l with one fault or two: the first one, a middle one or the last one may not be, or is of another dimension.
func faulty(l [][]int32) [][][]int32 {
	var m [][][]int32
	places := slices.Compact([]int{0, len(l) / 2, len(l) - 1})
	other := make([]int32, len(l[0])%4+1)
	for _, place := range places {
		for _, v := range badVecs() {
			m = append(m, with(l, place, v...))
			for _, second := range places {
				if second != place {
					m = append(m, with(with(l, place, v...), second, other...))
				}
			}
		}
		for dim := 1; dim <= 4; dim++ {
			m = append(m, with(l, place, make([]int32, dim)...))
		}
	}
	return m
}

// tooMany are more vectors than can be trained by.
func tooMany(dim int) [][][]int32 {
	return [][][]int32{filled(trained+1, dim, 0), scattered(5, 256, dim, 9), filled(257, dim, 0), filled(3000, dim, 1)}
}

// starts holds what Start answers against what has to come.
func starts(t *testing.T, l [][]int32, draws []int, want [][]int32, wantErr api.Errno) {
	t.Helper()
	if got, err := Start(l, draws); err != wantErr || !wordedSame(got, want) || err != api.OK && got != nil {
		t.Errorf("Start(%v, %v): %v, %d, not %v, %d", l, draws, got, err, want, wantErr)
	}
}

// assigns holds what Assign answers against what has to come.
func assigns(t *testing.T, c [][]int32, v []int32, want int, wantErr api.Errno) {
	t.Helper()
	if got, err := Assign(c, v); err != wantErr || got != want {
		t.Errorf("Assign(%v, %v): %d, %d, not %d, %d", c, v, got, err, want, wantErr)
	}
}

// parts holds what Parts answers against what has to come.
func parts(t *testing.T, c, l [][]int32, want []int, wantErr api.Errno) {
	t.Helper()
	if got, err := Parts(c, l); err != wantErr || !slices.Equal(got, want) {
		t.Errorf("Parts(%v, %v): %v, %d, not %v, %d", c, l, got, err, want, wantErr)
	}
}

// turns holds what Round answers against what has to come.
func turns(t *testing.T, c, l, want [][]int32, wantErr api.Errno) {
	t.Helper()
	if got, err := Round(c, l); err != wantErr || !wordedSame(got, want) || err != api.OK && got != nil {
		t.Errorf("Round(%v, %v): %v, %d, not %v, %d", c, l, got, err, want, wantErr)
	}
}

// trains holds what Train answers against what has to come.
func trains(t *testing.T, l [][]int32, draws []int, want [][]int32, wantErr api.Errno) {
	t.Helper()
	if got, err := Train(l, draws); err != wantErr || !wordedSame(got, want) || err != api.OK && got != nil {
		t.Errorf("Train(%v, %v): %v, %d, not %v, %d", l, draws, got, err, want, wantErr)
	}
}
