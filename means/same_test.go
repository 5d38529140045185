package means

import (
	"math"
	"testing"
)

// same holds what Same answers against what has to come, both ways round.
func same(t *testing.T, a, b [][]int32, want bool) {
	t.Helper()
	if got := Same(a, b); got != want {
		t.Errorf("Same(%v, %v): %v", a, b, got)
	}
	if got := Same(b, a); got != want {
		t.Errorf("Same(%v, %v): %v", b, a, got)
	}
}

// P12.4: nil and none, unlike lengths, a component, a dimension, an order; what may not be is compared as well.
func TestSameEdges(t *testing.T) {
	for _, c := range []struct {
		a, b [][]int32
		want bool
	}{
		{nil, nil, true},
		{nil, [][]int32{}, true},
		{[][]int32{}, [][]int32{}, true},
		{nil, ones(0), false},
		{[][]int32{}, ones(0), false},
		{nil, [][]int32{nil}, false},
		{[][]int32{nil}, [][]int32{{}}, true},
		{[][]int32{nil}, [][]int32{nil, nil}, false},
		{[][]int32{{}}, ones(0), false},
		{ones(1, 2), ones(1, 2), true},
		{ones(1, 2), ones(2, 1), false},
		{ones(1, 2), ones(1), false},
		{ones(1, 2), ones(2), false},
		{ones(1, 2), ones(1, 2, 2), false},
		{ones(1, 2), ones(1, -2), false},
		{ones(1, 2), [][]int32{{1, 2}}, false},
		{[][]int32{{1, 2}, {3}}, [][]int32{{1}, {2, 3}}, false},
		{[][]int32{{1, 2}, {3}}, [][]int32{{1, 2}, {3}}, true},
		{[][]int32{{1, 0}}, [][]int32{{1}}, false},
		{ones(math.MinInt32, math.MaxInt32), ones(math.MinInt32, math.MaxInt32), true},
		{ones(math.MinInt32), ones(math.MaxInt32), false},
		{ones(most, least), ones(least, most), false},
		{filled(3000, 9, 4), filled(3000, 9, 4), true},
		{filled(3000, 9, 4), with(filled(3000, 9, 4), 2999, 4, 4, 4, 4, 4, 4, 4, 4, 5), false},
		{filled(256, 1, 0), nil, false},
	} {
		same(t, c.a, c.b, c.want)
	}
}

// P12.4: all rows with all, and each with one component changed.
func TestSameAsWorded(t *testing.T) {
	var all [][][]int32
	for dim := 1; dim <= 4; dim++ {
		all = append(all, goodCentroids(dim)...)
	}
	for _, a := range all {
		for _, b := range all {
			same(t, a, own(b), wordedSame(a, b))
		}
		for i := range a {
			for j := range a[i] {
				b := own(a)
				b[i][j] ^= 1 << (i * 5)
				same(t, a, b, false)
			}
			same(t, a, with(a, i, append([]int32{0}, a[i]...)...), false)
			same(t, a, with(a, i, a[i][1:]...), false)
		}
	}
}
