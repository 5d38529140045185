package flat

import (
	"math"
	"slices"
	"testing"

	"quiver/api"
)

// manyRows are n rows of dimension 1, of which several have the same Id, or are equally far.
func manyRows(n int) []api.Row {
	next := random(uint64(n))
	l := make([]api.Row, n)
	for i := range l {
		l[i] = row(uint64(next(n+5)), int32(next(4*n+5)-2*n))
	}
	return l
}

// numbered are n rows that are the further the later they stand.
func numbered(n int) []api.Row {
	l := make([]api.Row, n)
	for i := range l {
		l[i] = row(uint64(i), int32(i))
	}
	return l
}

// P11.3: none, nil, one, and one whose vector is utmost.
func TestRowsOfFew(t *testing.T) {
	for _, q := range queries() {
		rows(t, nil, q, nil, api.OK)
		rows(t, []api.Row{}, q, nil, api.OK)
		rows(t, []api.Row{row(7, q.Vec...)}, q, hits(7, 0), api.OK)
		for _, v := range goodVecs() {
			l := []api.Row{row(math.MaxUint64, v...)}
			if len(v) != len(q.Vec) {
				rows(t, l, q, nil, api.ErrDim)
				continue
			}
			rows(t, l, q, hits(math.MaxUint64, wordedDist(v, q.Vec)), api.OK)
		}
	}
	rows(t, numbered(5)[:0], query(2, 1), nil, api.OK)
	rows(t, numbered(5)[1:3], query(16, 1), hits(1, 0, 2, 1), api.OK)
}

// P11.3: so many rows, up to MaxHits, as the chapter words it.
func TestRows(t *testing.T) {
	for _, n := range []int{1, 2, 3, 15, 16, 17, 95, 96, 97, 255, 256, 257, 1000} {
		for _, k := range []int{1, 2, 15, 16} {
			for _, v := range []int32{0, 5, -300, most, least} {
				l, q := manyRows(n), query(k, v)
				rows(t, l, q, wordedFound(l, q), api.OK)
			}
		}
	}
	for _, a := range goodArenas() {
		l := wordedIn(a, maskOf(spread(0, slots, 1)...))
		for _, q := range queries() {
			want, err := wordedRows(l, q)
			rows(t, l, q, want, err)
		}
	}
}

// P11.3: as many rows as MaxHits, one more, and many more: the nearest ones stand at the end, so that all are looked at.
func TestRowsOfMany(t *testing.T) {
	for _, k := range []int{1, 2, maxK} {
		for _, n := range []int{many - 1, many} {
			var want []api.Hit
			for i := range k {
				want = append(want, api.Hit{Id: uint64(n - 1 - i), Dist: uint64(i * i)})
			}
			rows(t, numbered(n), query(k, int32(n-1)), want, api.OK)
		}
		l := manyRows(many)
		rows(t, l, query(k, 77), wordedFound(l, query(k, 77)), api.OK)
		for _, n := range []int{many + 1, many + 2, 2 * many, 65536, 65536 + 5, 100000} {
			rows(t, numbered(n), query(k, 5), nil, api.ErrLong)
		}
		// What stands in the room behind the end is not of the list.
		rows(t, numbered(many + 1)[:many], query(1, 0), hits(0, 0), api.OK)
	}
}

// P11.3: one row, at each place, that may not be: of few rows, of many, and of too many, where that is told first.
func TestRowsOfBadOnes(t *testing.T) {
	for _, n := range []int{1, 2, 5, many, many + 1, many + 9} {
		for _, place := range []int{0, 1, n / 2, n - 1} {
			for _, v := range badVecs() {
				l := numbered(n)
				l[min(place, n-1)] = row(7, v...)
				rows(t, l, query(1, 5), nil, api.ErrRow)
				rows(t, l, query(maxK, 5, 6), nil, api.ErrRow)
			}
		}
	}
	rows(t, []api.Row{{}}, query(1, 5), nil, api.ErrRow)
}

// P11.3: one row, at each place, of another dimension.
func TestRowsOfAnotherDimension(t *testing.T) {
	for _, n := range []int{1, 2, 5, 20, many} {
		for _, place := range []int{0, 1, n / 2, n - 1} {
			for dim := 2; dim <= 4; dim++ {
				l := numbered(n)
				l[min(place, n-1)] = row(7, make([]int32, dim)...)
				rows(t, l, query(1, 0), nil, api.ErrDim)
				rows(t, l, query(maxK, 0), nil, api.ErrDim)
			}
		}
	}
	rows(t, []api.Row{row(7, 1, 2), row(8, 1, 2)}, query(1, 1), nil, api.ErrDim)
	rows(t, []api.Row{row(7, 1)}, query(1, 1, 2, 3, 4), nil, api.ErrDim)
}

// P11.3: of several errors K is told first, then the query's vector, a row, how many they are, the dimension.
func TestRowsOrderOfErrors(t *testing.T) {
	bad, other, good := row(1), row(2, 5, 6), row(3, 5)
	long := slices.Concat(numbered(many), []api.Row{other})
	lists := [][]api.Row{nil, {good}, {bad}, {other}, {bad, other}, {other, bad}, {other, bad, other}, {good, other, good, bad}, {row(4, most+1), other}, {other, row(4, least-1)}, long, numbered(many + 1), append(long, bad)}
	for _, l := range lists {
		for _, k := range badKs() {
			for _, v := range [][]int32{{5}, {5, 6}, nil, {most + 1}, {1, 2, 3, 4, 5}} {
				rows(t, l, query(k, v...), nil, api.ErrArg)
			}
		}
		for _, v := range badVecs() {
			rows(t, l, query(1, v...), nil, api.ErrVec)
			rows(t, l, query(maxK, v...), nil, api.ErrVec)
		}
	}
	for _, l := range [][]api.Row{{bad}, {bad, other}, {other, bad}, {other, bad, other}, {good, other, good, bad}, {row(4, most+1), other}, {other, row(4, least-1)}, append(long, bad), slices.Concat([]api.Row{bad}, long)} {
		rows(t, l, query(1, 5), nil, api.ErrRow)
	}
	rows(t, long, query(1, 5), nil, api.ErrLong)
	rows(t, long, query(1, 5, 6, 7), nil, api.ErrLong)
	rows(t, []api.Row{good, other}, query(1, 5), nil, api.ErrDim)
}

// P11.3: the same Id twice, with the same vector and with another one; and equal distances, which stand by Id.
func TestRowsOfEqualOnes(t *testing.T) {
	rows(t, []api.Row{row(7, 5), row(7, 5)}, query(16, 6), hits(7, 1, 7, 1), api.OK)
	rows(t, []api.Row{row(7, 5), row(7, 5)}, query(1, 6), hits(7, 1), api.OK)
	rows(t, []api.Row{row(7, 9), row(2, 5), row(7, 6)}, query(16, 6), hits(7, 0, 2, 1, 7, 9), api.OK)
	rows(t, []api.Row{row(9, 5), row(3, 7), row(math.MaxUint64, 5), row(0, 7), row(1<<63, 5)}, query(16, 6), hits(0, 1, 3, 1, 9, 1, 1<<63, 1, math.MaxUint64, 1), api.OK)
	rows(t, []api.Row{row(9, 5), row(3, 7), row(math.MaxUint64, 5), row(0, 7), row(1<<63, 5)}, query(2, 6), hits(0, 1, 3, 1), api.OK)
}
