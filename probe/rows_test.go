package probe

import (
	"math"
	"slices"
	"testing"

	"quiver/api"
)

// someRows are n rows of that dimension, of which several have the same Id, or are equally far.
func someRows(n, dim, wide int) []api.Row {
	next := random(uint64(n))
	var l []api.Row
	for _, v := range scattered(uint64(n), n, dim, wide) {
		l = append(l, row(uint64(next(n+5)), v...))
	}
	return l
}

// numbered are n rows from a component on, the further the later they stand.
func numbered(n int, from int32) []api.Row {
	l := make([]api.Row, n)
	for i := range l {
		l[i] = row(uint64(i), from+int32(i))
	}
	return l
}

// P14.4: rows and centroids of all kinds.
func TestRowsAsWorded(t *testing.T) {
	found, left := 0, 0
	for dim := 1; dim <= 4; dim++ {
		for i, c := range goodCentroids(dim) {
			for _, n := range []int{0, 1, 2, 5, 17, 60, 130} {
				l := someRows(n, dim, []int{3, 60, most}[i%3])
				for _, p := range someProbes(uint64(i*n), dim) {
					want, err := wordedRows(l, c, p)
					rows(t, l, c, p, want, err)
					if err == api.OK && len(wordedOwn(l, c, p)) < n {
						left++
					}
					found += len(want)
				}
			}
		}
	}
	if found < 1000 || left < 1000 {
		t.Errorf("just %d found, %d times was something left out", found, left)
	}
}

// P14.4: none, nil, one.
func TestRowsOfFew(t *testing.T) {
	for _, v := range goodVecs() {
		for _, c := range [][][]int32{{v}, {v, v}, filled(6, len(v), 0), append(filled(1, len(v), most), filled(1, len(v), least)...)} {
			for _, n := range goodNs() {
				p := probing(2, n, 0, v...)
				rows(t, nil, c, p, nil, api.OK)
				rows(t, []api.Row{}, c, p, nil, api.OK)
				rows(t, []api.Row{row(5, v...)}[:0], c, p, nil, api.OK)
				// What is as the query's vector belongs to the nearest one.
				rows(t, []api.Row{row(math.MaxUint64, v...)}, c, p, hits(math.MaxUint64, 0), api.OK)
			}
		}
	}
}

// P14.4: written out: what belongs is found with its list alone, at equal distances of two centroids with the one that stands ahead.
func TestRowsEdges(t *testing.T) {
	l := []api.Row{row(1, 4), row(2, 5), row(3, 6), row(4, 14), row(5, 15), row(6, 16), row(7, 25)}
	for _, c := range []struct {
		c    [][]int32
		n    int
		v    int32
		want []api.Hit
	}{
		{ones(0, 10, 20), 1, 0, hits(1, 16, 2, 25)},
		{ones(0, 10, 20), 1, 5, hits(2, 0, 1, 1)},
		{ones(0, 10, 20), 1, 6, hits(3, 0, 4, 64, 5, 81)},
		{ones(0, 10, 20), 1, 30, hits(7, 25, 6, 196)},
		{ones(0, 10, 20), 2, 30, hits(7, 25, 6, 196, 5, 225, 4, 256, 3, 576)},
		{ones(0, 10, 20), 2, 0, hits(1, 16, 2, 25, 3, 36, 4, 196, 5, 225)},
		{ones(10, 0, 20), 1, 0, hits(1, 16)},
		{ones(10, 20, 0), 1, 20, hits(6, 16, 7, 25)},
		{ones(20, 10, 0), 1, 20, hits(6, 16, 5, 25, 7, 25)},
		{ones(20, 20, 20), 1, 20, hits(6, 16, 5, 25, 7, 25, 4, 36, 3, 196, 2, 225, 1, 256)},
		// To the second one of equal centroids nothing belongs, whatever is asked.
		{ones(0, 20, 20), 1, 30, hits(7, 25, 6, 196, 5, 225, 4, 256)},
		{ones(0, 20, 20), 2, 30, hits(7, 25, 6, 196, 5, 225, 4, 256)},
		{ones(0, 20, 20), 3, 30, hits(7, 25, 6, 196, 5, 225, 4, 256, 3, 576, 2, 625, 1, 676)},
		{ones(100, 0), 1, 90, nil},
		{ones(100, 0), 2, 90, hits(7, 4225, 6, 5476, 5, 5625, 4, 5776, 3, 7056, 2, 7225, 1, 7396)},
		{ones(100, -100), 1, 0, hits(1, 16, 2, 25, 3, 36, 4, 196, 5, 225, 6, 256, 7, 625)},
		{ones(-100, 100), 1, 0, nil},
		{ones(-100, 100), 2, 0, hits(1, 16, 2, 25, 3, 36, 4, 196, 5, 225, 6, 256, 7, 625)},
	} {
		for k := 1; k <= maxK; k++ {
			rows(t, l, c.c, probing(k, c.n, 0, c.v), c.want[:min(k, len(c.want))], api.OK)
		}
	}
}

// P14.4: rows of one Id, each one is found for itself; equal distances stand by Id.
func TestRowsOfEqualOnes(t *testing.T) {
	c := ones(5, 50)
	rows(t, []api.Row{row(7, 5), row(7, 5)}, c, probing(16, 1, 0, 6), hits(7, 1, 7, 1), api.OK)
	rows(t, []api.Row{row(7, 5), row(7, 5)}, c, probing(1, 1, 0, 6), hits(7, 1), api.OK)
	rows(t, []api.Row{row(7, 9), row(7, 49), row(2, 5), row(7, 6)}, c, probing(16, 1, 0, 6), hits(7, 0, 2, 1, 7, 9), api.OK)
	rows(t, []api.Row{row(7, 9), row(7, 49), row(2, 5), row(7, 6)}, c, probing(16, 2, 0, 6), hits(7, 0, 2, 1, 7, 9, 7, 1849), api.OK)
	rows(t, []api.Row{row(9, 5), row(3, 7), row(math.MaxUint64, 5), row(0, 7), row(1<<63, 5)}, c, probing(16, 1, 0, 6), hits(0, 1, 3, 1, 9, 1, 1<<63, 1, math.MaxUint64, 1), api.OK)
	rows(t, []api.Row{row(9, 5), row(3, 7), row(math.MaxUint64, 5), row(0, 7), row(1<<63, 5)}, c, probing(2, 2, 0, 6), hits(0, 1, 3, 1), api.OK)
}

// P14.4: as many rows that belong as MaxHits, one more, and many more; those that do not belong do not count.
func TestRowsOfMany(t *testing.T) {
	c := ones(0, 1<<20)
	far := numbered(3*many, 1<<20)
	for _, k := range []int{1, 2, maxK} {
		p := probing(k, 1, 0, 1999)
		for _, n := range []int{many - 1, many} {
			want := wordedFound(numbered(n, 0), p.Query)
			// The nearest ones stand at the end, so that all are looked at.
			rows(t, numbered(n, 0), c, p, want, api.OK)
			rows(t, slices.Concat(far, numbered(n, 0)), c, p, want, api.OK)
			rows(t, slices.Concat(numbered(n, 0), far), c, p, want, api.OK)
		}
		for _, n := range []int{many + 1, many + 2, 2 * many, 65536, 65536 + 5} {
			rows(t, numbered(n, 0), c, p, nil, api.ErrLong)
			rows(t, slices.Concat(far, numbered(n, 0)), c, p, nil, api.ErrLong)
			rows(t, slices.Concat(numbered(n, 0), far), c, p, nil, api.ErrLong)
		}
		rows(t, far, c, p, nil, api.OK)
		rows(t, far, c, probing(k, 2, 0, 1999), nil, api.ErrLong)
		// What stands in the room behind the end is not of the rows.
		rows(t, numbered(many+1, 0)[:many], c, p, wordedFound(numbered(many, 0), p.Query), api.OK)
	}
}

// P14.4: those of all lists that are asked count together.
func TestRowsOfManyInSeveralLists(t *testing.T) {
	c := ones(0, 100000, 200000)
	for _, parts := range [][3]int{{many, 0, 1}, {many - 1, 1, 1}, {1000, 1000, 1}, {1, many - 1, 5}, {0, many, 9}} {
		l := slices.Concat(numbered(parts[0], 0), numbered(parts[1], 100000), numbered(parts[2], 200000))
		for n := 1; n <= 2; n++ {
			p := probing(3, n, 0, 0)
			want, err := wordedRows(l, c, p)
			if err != api.OK {
				t.Fatal(err)
			}
			rows(t, l, c, p, want, api.OK)
		}
		rows(t, l, c, probing(3, 3, 0, 0), nil, api.ErrLong)
		rows(t, append(l, row(5, 99999)), c, probing(3, 2, 0, 0), nil, api.ErrLong)
		rows(t, append(l, row(5, 0)), c, probing(3, 2, 0, 0), nil, api.ErrLong)
	}
	l := slices.Concat(numbered(667, 0), numbered(667, 100000), numbered(666, 200000))
	rows(t, l, c, probing(3, 3, 0, 0), hits(0, 0, 1, 1, 2, 4), api.OK)
	rows(t, append(l, row(5, 200000)), c, probing(3, 2, 0, 0), hits(0, 0, 1, 1, 2, 4), api.OK)
	rows(t, append(l, row(5, 200000)), c, probing(3, 3, 0, 0), nil, api.ErrLong)
}

// P14.4: one row, at each place, that may not be: of few, of many and of too many, ahead of one of another dimension.
func TestRowsOfBadOnes(t *testing.T) {
	c := ones(0, 1<<20)
	for _, n := range []int{1, 2, 5, many, many + 1} {
		l := numbered(n, 0)
		for _, place := range []int{0, min(1, n-1), n / 2, n - 1} {
			for _, v := range badVecs() {
				rows(t, withRow(l, place, row(7, v...)), c, probing(1, 1, 0, 5), nil, api.ErrRow)
				rows(t, append(withRow(l, place, row(7, v...)), row(8, 1, 2)), c, probing(16, maxProbe, 0, 5), nil, api.ErrRow)
			}
		}
	}
	l := numbered(20, 0)
	for place := range l {
		for _, v := range fewBadVecs() {
			rows(t, withRow(l, place, row(7, v...)), c, probing(16, 1, 0, 5), nil, api.ErrRow)
			rows(t, withRow(l, place, row(7, v...)), c, probing(16, 1, 0, 5, 6), nil, api.ErrRow)
		}
	}
	rows(t, []api.Row{{}}, c, probing(1, 1, 0, 5), nil, api.ErrRow)
}

// P14.4: one row, at each place, of another dimension, among those that belong and those that do not, of few and of too many.
func TestRowsOfAnotherDimension(t *testing.T) {
	for dim := 1; dim <= 4; dim++ {
		c := append(filled(1, dim, 0), filled(1, dim, 1000)...)
		p := probing(3, 1, 0, make([]int32, dim)...)
		for _, n := range []int{1, 2, 5, 20} {
			l := someRows(n, dim, 2000)
			for place := range l {
				for far := 1; far <= 4; far++ {
					if far == dim {
						continue
					}
					for _, component := range []int32{0, 1000, least} {
						strange := withRow(l, place, row(7, filled(1, far, component)[0]...))
						rows(t, strange, c, p, nil, api.ErrDim)
						rows(t, strange, c[:1], p, nil, api.ErrDim)
						rows(t, strange, c, probing(16, 2, 0, make([]int32, dim)...), nil, api.ErrDim)
					}
				}
			}
		}
	}
	for _, n := range []int{many, many + 1} {
		for _, place := range []int{0, 1, n / 2, n - 1} {
			rows(t, withRow(numbered(n, 0), place, row(7, 1, 2)), ones(0, 5000), probing(3, 1, 0, 0), nil, api.ErrDim)
		}
		rows(t, append(numbered(n, 0), row(7, 1, 2)), ones(0, 5000), probing(3, 1, 0, 0), nil, api.ErrDim)
	}
}

// P14.4: centroids of another dimension than the query's vector, whether the rows have that of these, or of that, and without rows.
func TestRowsOfCentroidsOfAnotherDimension(t *testing.T) {
	for dim := 1; dim <= 4; dim++ {
		for far := 1; far <= 4; far++ {
			for n := 1; n <= maxLists; n++ {
				for rowDim := 1; rowDim <= 4; rowDim++ {
					for _, l := range [][]api.Row{nil, someRows(9, rowDim, 9)} {
						c, p := scattered(9, n, dim, 9), probing(3, n, 0, make([]int32, far)...)
						want := api.OK
						if far != dim || len(l) > 0 && rowDim != dim {
							want = api.ErrDim
						}
						_, err := Rows(l, c, p)
						if err != want {
							t.Errorf("Rows(%v, %v, %v): %d, not %d", l, c, p, err, want)
						}
					}
				}
			}
		}
	}
	rows(t, numbered(many+1, 0), [][]int32{{1, 2}}, probing(3, 1, 0, 5), nil, api.ErrDim)
	rows(t, numbered(many+1, 0), ones(5), probing(3, 1, 0, 5, 6), nil, api.ErrDim)
}

// P14.4: each number of centroids, up to one more than there may be, and far more; and none.
func TestRowsByNumberOfCentroids(t *testing.T) {
	for dim := 1; dim <= 4; dim++ {
		l, v := someRows(30, dim, 9), make([]int32, dim)
		for _, n := range goodNs() {
			p := probing(5, n, 0, v...)
			rows(t, l, nil, p, nil, api.ErrUntrained)
			rows(t, l, [][]int32{}, p, nil, api.ErrUntrained)
			rows(t, nil, nil, p, nil, api.ErrUntrained)
			for k := 1; k <= maxLists; k++ {
				want, err := wordedRows(l, scattered(7, k, dim, 9), p)
				rows(t, l, scattered(7, k, dim, 9), p, want, err)
				rows(t, l, filled(k, dim, 5), p, wordedFound(l, p.Query), api.OK)
			}
			for _, k := range []int{maxLists + 1, maxLists + 2, 96, 256, 258, 5000} {
				rows(t, l, filled(k, dim, 5), p, nil, api.ErrLists)
			}
		}
	}
}

// P14.4: centroids that may not be, at each place, and of unlike dimensions, with rows that may be, that may not, and none.
func TestRowsOfBadCentroids(t *testing.T) {
	for i, c := range badCentroids() {
		p := probing(3, 1+i%7, 0, make([]int32, 1+i%4)...)
		rows(t, nil, c, p, nil, api.ErrLists)
		rows(t, someRows(5, 1+i%4, 9), c, p, nil, api.ErrLists)
		rows(t, []api.Row{row(1, 1), row(2)}, c, p, nil, api.ErrLists)
	}
}

// P14.4: of several errors that of Check is told first, then no centroids, what may not be, a row, the dimension, how many belong.
func TestRowsOrderOfErrors(t *testing.T) {
	bad, strange, good := row(1), row(2, 5, 6), row(3, 5)
	long := numbered(many+1, 0)
	withBad := [][]api.Row{{bad}, {bad, strange}, {strange, bad}, {strange, bad, strange}, {good, strange, good, bad}, {row(4, most+1), strange}, append(slices.Clone(long), bad), append(slices.Clone(long), strange, bad)}
	withStrange := [][]api.Row{{strange}, {good, strange}, {strange, good}, append(slices.Clone(long), strange), slices.Concat([]api.Row{strange}, long)}
	all := slices.Concat(withBad, withStrange, [][]api.Row{nil, {good}, long})
	sets := append(fewBadCentroids(), nil, [][]int32{}, ones(5), [][]int32{{1, 2}, {3, 4}})
	for _, l := range all {
		for _, c := range sets {
			for _, v := range append(fewBadVecs(), []int32{5}, []int32{5, 6}) {
				for _, k := range badKs() {
					rows(t, l, c, probing(k, 1, 0, v...), nil, api.ErrArg)
				}
				for _, n := range badNs() {
					rows(t, l, c, probing(1, n, 0, v...), nil, api.ErrArg)
				}
			}
			for _, v := range badVecs() {
				rows(t, l, c, probing(1, 1, 0, v...), nil, api.ErrVec)
			}
		}
		for _, v := range [][]int32{{5}, {5, 6}, {5, 6, 7}} {
			rows(t, l, nil, probing(1, 1, 0, v...), nil, api.ErrUntrained)
			for _, c := range fewBadCentroids() {
				rows(t, l, c, probing(1, 1, 0, v...), nil, api.ErrLists)
			}
		}
	}
	for _, c := range [][][]int32{ones(5), ones(5, 6), {{1, 2}, {3, 4}}} {
		for _, v := range [][]int32{{5}, {5, 6, 7}} {
			for _, l := range withBad {
				rows(t, l, c, probing(1, 1, 0, v...), nil, api.ErrRow)
			}
			for _, l := range withStrange {
				rows(t, l, c, probing(1, 1, 0, v...), nil, api.ErrDim)
			}
		}
	}
	rows(t, long, ones(5), probing(1, 1, 0, 5), nil, api.ErrLong)
	rows(t, long, ones(5), probing(1, 1, 0, 5, 6), nil, api.ErrDim)
}

// P14.4: Ts counts for nothing.
func TestRowsAtAllTimes(t *testing.T) {
	l, c := someRows(40, 2, 9), scattered(2, 4, 2, 9)
	for n := 1; n <= 4; n++ {
		want, err := Rows(l, c, probing(6, n, 0, 1, 2))
		if err != api.OK || len(want) == 0 {
			t.Fatal(want, err)
		}
		for _, ts := range edgeTimes() {
			rows(t, l, c, probing(6, n, ts, 1, 2), want, api.OK)
			rows(t, l, nil, probing(6, n, ts, 1, 2), nil, api.ErrUntrained)
			rows(t, l, c, probing(6, n, ts, 1), nil, api.ErrDim)
		}
	}
}

// P14.4: in whatever order the rows stand, it comes to the same.
func TestRowsInOtherOrders(t *testing.T) {
	for dim := 1; dim <= 4; dim++ {
		for i, c := range goodCentroids(dim) {
			l := someRows(50, dim, 9)
			p := probing(1+i%maxK, 1+i%6, 0, scattered(uint64(i), 1, dim, 9)[0]...)
			want, err := wordedRows(l, c, p)
			for cut := range 10 {
				rows(t, slices.Concat(l[cut*5:], l[:cut*5]), c, p, want, err)
			}
			slices.Reverse(l)
			rows(t, l, c, p, want, err)
		}
	}
}
