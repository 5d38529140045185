package vec

import (
	"math"
	"slices"
	"testing"

	"quiver/api"
)

const (
	most  = api.MaxComp
	least = -api.MaxComp
)

// beyond are components that may not be.
var beyond = []int32{most + 1, least - 1, 1<<30 + 5, math.MaxInt32, math.MinInt32, math.MinInt32 + 1}

// filled is a vector of n components, all the same.
func filled(n int, component int32) []int32 {
	return slices.Repeat([]int32{component}, n)
}

// with is v, with another component at a place.
func with(v []int32, place int, component int32) []int32 {
	w := slices.Clone(v)
	w[place] = component
	return w
}

// good are vectors of that dimension that may be: of one component all over, of unlike ones, and with an utmost one at each place.
func good(dim int) [][]int32 {
	l := [][]int32{
		filled(dim, 0), filled(dim, 1), filled(dim, -1), filled(dim, 7), filled(dim, most), filled(dim, least),
		[]int32{most, least, most - 1, least + 1}[:dim],
		[]int32{-1, 2, -3, 4}[:dim],
		[]int32{1 << 16, -1 << 16, 1<<29 + 1, -1<<29 - 1}[:dim],
	}
	for place := range dim {
		l = append(l, with(filled(dim, 3), place, most), with(filled(dim, 3), place, least))
	}
	return l
}

// bad are vectors that may not be: of none or of too many components, and with one that is beyond the bounds at each place.
func bad() [][]int32 {
	l := [][]int32{nil, {}}
	for _, n := range []int{5, 6, 8, 100} {
		l = append(l, filled(n, 0), filled(n, 1), filled(n, most), filled(n, math.MaxInt32))
	}
	for dim := 1; dim <= api.MaxDim; dim++ {
		for _, component := range beyond {
			l = append(l, filled(dim, component))
			for place := range dim {
				l = append(l, with(filled(dim, 0), place, component), with(filled(dim, most), place, component))
			}
		}
	}
	return l
}

// all are those that may be, of each dimension, and those that may not.
func all() [][]int32 {
	l := bad()
	for dim := 1; dim <= api.MaxDim; dim++ {
		l = append(l, good(dim)...)
	}
	return l
}

// cut is v with further components in the room behind its end, which nobody may look at.
func cut(v []int32, behind ...int32) []int32 {
	return slices.Concat(v, behind)[:len(v)]
}

// P5.1: vectors that may be, of each dimension.
func TestCheckGood(t *testing.T) {
	for dim := 1; dim <= api.MaxDim; dim++ {
		for _, v := range good(dim) {
			if err := Check(v); err != api.OK {
				t.Errorf("Check(%v): %d", v, err)
			}
		}
	}
}

// P5.1: vectors that may not be.
func TestCheckBad(t *testing.T) {
	for _, v := range bad() {
		if err := Check(v); err != api.ErrVec {
			t.Errorf("Check(%v): %d", v, err)
		}
	}
}

// P5.1: edges written out.
func TestCheckEdges(t *testing.T) {
	for _, c := range []struct {
		v    []int32
		want api.Errno
	}{
		{nil, api.ErrVec},
		{[]int32{}, api.ErrVec},
		{[]int32{0}, api.OK},
		{[]int32{1, 2, 3, 4}, api.OK},
		{[]int32{1, 2, 3, 4, 5}, api.ErrVec},
		{[]int32{1073741823}, api.OK},
		{[]int32{1073741824}, api.ErrVec},
		{[]int32{-1073741823}, api.OK},
		{[]int32{-1073741824}, api.ErrVec},
		{[]int32{2147483647}, api.ErrVec},
		{[]int32{-2147483648}, api.ErrVec},
		{[]int32{0, 0, 0, 1073741823}, api.OK},
		{[]int32{0, 0, 0, 1073741824}, api.ErrVec},
		{[]int32{-1073741824, 0, 0, 0}, api.ErrVec},
	} {
		if err := Check(c.v); err != c.want {
			t.Errorf("Check(%v): %d, not %d", c.v, err, c.want)
		}
	}
}

// P5.1: each dimension, of what has it and of what has not.
func TestOfGood(t *testing.T) {
	dims := []int{-1, 0, 1, 2, 3, 4, 5, math.MinInt, math.MaxInt, 1<<32 + 1}
	for dim := 1; dim <= api.MaxDim; dim++ {
		for _, v := range good(dim) {
			for _, other := range dims {
				want := api.ErrDim
				if other == dim {
					want = api.OK
				}
				if err := Of(v, other); err != want {
					t.Errorf("Of(%v, %d): %d, not %d", v, other, err, want)
				}
			}
		}
	}
}

// P5.1: of what may not be ErrVec goes ahead, whatever the dimension, its own length too.
func TestOfBad(t *testing.T) {
	for _, v := range bad() {
		for _, dim := range []int{-1, 0, 1, 2, 3, 4, 5, 6, len(v), math.MinInt, math.MaxInt} {
			if err := Of(v, dim); err != api.ErrVec {
				t.Errorf("Of(%v, %d): %d", v, dim, err)
			}
		}
	}
}

// P5.1: all with all: the same components or not, whether they may be or not.
func TestSameOfAll(t *testing.T) {
	for _, a := range all() {
		for _, b := range all() {
			if got, want := Same(a, b), slices.Equal(a, b); got != want {
				t.Errorf("Same(%v, %v): %v", a, b, got)
			}
		}
		if !Same(a, slices.Clone(a)) {
			t.Errorf("Same(%v, the same)", a)
		}
	}
}

// P5.1: pairs written out.
func TestSameEdges(t *testing.T) {
	for _, c := range []struct {
		a, b []int32
		want bool
	}{
		{nil, nil, true},
		{nil, []int32{}, true},
		{[]int32{}, []int32{}, true},
		{nil, []int32{0}, false},
		{[]int32{}, []int32{0}, false},
		{[]int32{1}, []int32{1}, true},
		{[]int32{1}, []int32{-1}, false},
		{[]int32{1}, []int32{1, 0}, false},
		{[]int32{1, 2}, []int32{1, 2, 3}, false},
		{[]int32{2, 3}, []int32{1, 2, 3}, false},
		{[]int32{1, 2}, []int32{2, 1}, false},
		{[]int32{0}, []int32{0, 0}, false},
		{[]int32{math.MinInt32}, []int32{math.MinInt32}, true},
		{[]int32{math.MinInt32}, []int32{math.MaxInt32}, false},
		{[]int32{0}, []int32{math.MinInt32}, false},
		{[]int32{1, 2, 3, 4, 5, 6}, []int32{1, 2, 3, 4, 5, 6}, true},
		{[]int32{1, 2, 3, 4, 5, 6}, []int32{1, 2, 3, 4, 5, 7}, false},
	} {
		if Same(c.a, c.b) != c.want || Same(c.b, c.a) != c.want {
			t.Errorf("Same(%v, %v): not %v", c.a, c.b, c.want)
		}
	}
}

// P5.1: another component at each place, and each beginning.
func TestSameAtEachPlace(t *testing.T) {
	for _, n := range []int{1, 2, 3, 4, 5, 9} {
		v := filled(n, 7)
		for place := range n {
			for _, component := range []int32{6, 8, 0, -7, 7 + 1<<8, 7 + 1<<16, 7 - 1<<31} {
				if Same(v, with(v, place, component)) || Same(with(v, place, component), v) {
					t.Errorf("%d components, %d at %d: the same", n, component, place)
				}
			}
			if Same(v, v[:place]) || Same(v[:place], v) {
				t.Errorf("%d components and the first %d: the same", n, place)
			}
		}
	}
}

// P5.1, R3: the room behind the end does not count.
func TestRoomBehindDoesNotCount(t *testing.T) {
	for _, v := range all() {
		w := cut(v, 1, 2, 3, math.MaxInt32)
		if Check(w) != Check(v) || Of(w, 2) != Of(v, 2) || Of(w, len(v)) != Of(v, len(v)) {
			t.Errorf("%v: the room behind it counts", v)
		}
		if !Same(w, v) || !Same(w, cut(v, 9, 9)) {
			t.Errorf("%v: not the same, with room behind it", v)
		}
	}
}

// P5.1, R3: vectors and the room behind their ends stay as they are.
func TestChecksChangeNothing(t *testing.T) {
	for _, v := range all() {
		a, b := cut(v, 1, math.MaxInt32), cut(v, 2, math.MinInt32)
		Check(a)
		Of(a, 3)
		Of(b, len(v))
		Same(a, b)
		if !slices.Equal(a[:len(v)+2], append(slices.Clone(v), 1, math.MaxInt32)) {
			t.Errorf("%v was changed: %v", v, a[:len(v)+2])
		}
		if !slices.Equal(b[:len(v)+2], append(slices.Clone(v), 2, math.MinInt32)) {
			t.Errorf("%v was changed: %v", v, b[:len(v)+2])
		}
	}
}
