package vec

import (
	"math"
	"math/big"
	"slices"
	"testing"

	"quiver/api"
)

// worded is the distance as the chapter words it, by whole numbers without a bound.
func worded(a, b []int32) *big.Int {
	sum := new(big.Int)
	for i := range a {
		apart := new(big.Int).Sub(big.NewInt(int64(a[i])), big.NewInt(int64(b[i])))
		sum.Add(sum, apart.Mul(apart, apart))
	}
	return sum
}

// far holds what Dist answers against the distance that has to come.
func far(t *testing.T, a, b []int32, want *big.Int) {
	t.Helper()
	if !want.IsUint64() {
		t.Fatalf("%v and %v: %v is not below 2^64", a, b, want)
	}
	if got, err := Dist(a, b); err != api.OK || got != want.Uint64() {
		t.Errorf("Dist(%v, %v): %d, %d, not %v", a, b, got, err, want)
	}
}

// notFar holds what Dist answers against an error, both ways round, with nothing beside it.
func notFar(t *testing.T, a, b []int32, want api.Errno) {
	t.Helper()
	if got, err := Dist(a, b); err != want || got != 0 {
		t.Errorf("Dist(%v, %v): %d, %d, not %d", a, b, got, err, want)
	}
	if got, err := Dist(b, a); err != want || got != 0 {
		t.Errorf("Dist(%v, %v): %d, %d, not %d", b, a, got, err, want)
	}
}

// P5.2: all with all of one dimension, against the chapter's words.
func TestDistAsWorded(t *testing.T) {
	for dim := 1; dim <= api.MaxDim; dim++ {
		for _, a := range good(dim) {
			for _, b := range good(dim) {
				far(t, a, b, worded(a, b))
			}
		}
	}
}

// P5.2: distances written out, the chapter's example among them.
func TestDistEdges(t *testing.T) {
	for _, c := range []struct {
		a, b []int32
		want uint64
	}{
		{[]int32{1, 2}, []int32{4, 6}, 25},
		{[]int32{4, 6}, []int32{1, 2}, 25},
		{[]int32{0}, []int32{0}, 0},
		{[]int32{5}, []int32{-5}, 100},
		{[]int32{-5}, []int32{5}, 100},
		{[]int32{0, 0, 0}, []int32{1, -2, 3}, 14},
		{[]int32{1, 1, 1, 1}, []int32{0, 2, 0, 2}, 4},
		{[]int32{0}, []int32{65536}, 1 << 32},
		{[]int32{0, 0}, []int32{65536, 1}, 1<<32 + 1},
		{[]int32{most}, []int32{0}, 1152921502459363329},
		{[]int32{most}, []int32{least}, 4611686009837453316},
		{[]int32{most, most}, []int32{least, least}, 9223372019674906632},
		{[]int32{most, most, most}, []int32{least, least, least}, 13835058029512359948},
		{[]int32{most, most, most, most}, []int32{least, least, least, least}, 18446744039349813264},
		{[]int32{most, least, most, least}, []int32{least, most, least, most}, 18446744039349813264},
	} {
		far(t, c.a, c.b, new(big.Int).SetUint64(c.want))
	}
}

// P5.2: the furthest two of each dimension, and those that are one nearer, at each place.
func TestDistOfTheFurthest(t *testing.T) {
	for dim := 1; dim <= api.MaxDim; dim++ {
		high, low := filled(dim, most), filled(dim, least)
		far(t, high, low, worded(high, low))
		for place := range dim {
			a, b := with(high, place, most-1), with(low, place, least+1)
			for _, pair := range [][2][]int32{{a, low}, {high, b}, {a, b}, {with(high, place, least), with(low, place, most)}} {
				far(t, pair[0], pair[1], worded(pair[0], pair[1]))
				far(t, pair[1], pair[0], worded(pair[0], pair[1]))
			}
		}
	}
}

// P5.2: each component counts, and its place does: no two are the same for a distance.
func TestDistOfEachComponent(t *testing.T) {
	for dim := 1; dim <= api.MaxDim; dim++ {
		for place := range dim {
			for _, component := range []int32{1, -1, 2, 1000, most, least} {
				square := new(big.Int).Mul(big.NewInt(int64(component)), big.NewInt(int64(component)))
				far(t, filled(dim, 0), with(filled(dim, 0), place, component), square)
			}
		}
	}
}

// P5.2: what may not be, on either side or on both, of the same length or not.
func TestDistOfBad(t *testing.T) {
	for _, a := range bad() {
		for _, b := range all() {
			notFar(t, a, b, api.ErrVec)
		}
		notFar(t, a, a, api.ErrVec)
	}
}

// P5.2: unlike dimensions.
func TestDistOfUnlikeDimensions(t *testing.T) {
	for dim := 1; dim <= api.MaxDim; dim++ {
		for other := 1; other < dim; other++ {
			for _, a := range good(dim) {
				for _, b := range good(other) {
					notFar(t, a, b, api.ErrDim)
				}
				notFar(t, a, a[:other], api.ErrDim)
			}
		}
	}
	notFar(t, []int32{1}, []int32{1, 2}, api.ErrDim)
	notFar(t, nil, []int32{1}, api.ErrVec)
}

// P5.2, R3: vectors and the room behind their ends stay as they are, and that room does not count.
func TestDistChangesNothing(t *testing.T) {
	for _, a := range all() {
		for _, b := range all() {
			want, wantErr := Dist(a, b)
			x, y := cut(a, 1, math.MaxInt32), cut(b, 5, 6)
			if got, err := Dist(x, y); got != want || err != wantErr {
				t.Errorf("Dist(%v, %v): the room behind them counts", a, b)
			}
			if !slices.Equal(x[:len(a)+2], append(slices.Clone(a), 1, math.MaxInt32)) || !slices.Equal(y[:len(b)+2], append(slices.Clone(b), 5, 6)) {
				t.Errorf("Dist(%v, %v) has changed them: %v, %v", a, b, x, y)
			}
		}
	}
}

// numbers are those that distances and Ids are here: around 0, around where signs and halves begin, and up to 2^64 less 1.
func numbers() []uint64 {
	return []uint64{0, 1, 2, 7, math.MaxUint32, 1 << 32, 1<<63 - 1, 1 << 63, 1<<63 + 1, math.MaxUint64 - 1, math.MaxUint64}
}

func hits() []api.Hit {
	var l []api.Hit
	for _, id := range numbers() {
		for _, dist := range numbers() {
			l = append(l, api.Hit{Id: id, Dist: dist})
		}
	}
	return l
}

// ordered is the order as the chapter words it.
func ordered(a, b api.Hit) int {
	switch {
	case a.Dist < b.Dist, a.Dist == b.Dist && a.Id < b.Id:
		return -1
	case a == b:
		return 0
	}
	return 1
}

// P5.2: all with all, the same distance, the same Id, and both among them, both ways round.
func TestCompareAsWorded(t *testing.T) {
	for _, a := range hits() {
		for _, b := range hits() {
			if got, want := Compare(a, b), ordered(a, b); got != want {
				t.Errorf("Compare(%v, %v): %d, not %d", a, b, got, want)
			}
		}
	}
}

// P5.2: pairs written out, the chapter's examples among them.
func TestCompareEdges(t *testing.T) {
	for _, c := range []struct {
		a, b api.Hit
		want int
	}{
		{api.Hit{Id: 7, Dist: 3}, api.Hit{Id: 2, Dist: 4}, -1},
		{api.Hit{Id: 7, Dist: 3}, api.Hit{Id: 2, Dist: 3}, 1},
		{api.Hit{Id: 2, Dist: 3}, api.Hit{Id: 2, Dist: 4}, -1},
		{api.Hit{Id: 2, Dist: 3}, api.Hit{Id: 2, Dist: 3}, 0},
		{api.Hit{}, api.Hit{}, 0},
		{api.Hit{Id: math.MaxUint64, Dist: math.MaxUint64}, api.Hit{Id: math.MaxUint64, Dist: math.MaxUint64}, 0},
		{api.Hit{Id: math.MaxUint64}, api.Hit{Dist: math.MaxUint64}, -1},
		{api.Hit{Id: math.MaxUint64, Dist: 1}, api.Hit{Id: 0, Dist: 1}, 1},
		{api.Hit{Id: 1, Dist: math.MaxUint64}, api.Hit{Id: 1, Dist: 0}, 1},
		{api.Hit{Id: 1<<63 - 1, Dist: 5}, api.Hit{Id: 1 << 63, Dist: 5}, -1},
		{api.Hit{Id: 5, Dist: 1<<63 - 1}, api.Hit{Id: 5, Dist: 1 << 63}, -1},
	} {
		if got := Compare(c.a, c.b); got != c.want {
			t.Errorf("Compare(%v, %v): %d, not %d", c.a, c.b, got, c.want)
		}
		if got := Compare(c.b, c.a); got != -c.want {
			t.Errorf("Compare(%v, %v): %d, not %d", c.b, c.a, got, -c.want)
		}
	}
}
