package topk

import (
	"math"
	"slices"
	"testing"

	"quiver/api"
)

// noKs are those below the least K, and above the greatest one.
var noKs = []int{math.MinInt, -api.MaxK, -2, -1, 0, api.MaxK + 1, api.MaxK + 2, api.MaxHits, math.MaxInt}

// at is hits as number and distance, pair by pair.
func at(pairs ...uint64) []api.Hit {
	var l []api.Hit
	for i := 0; i < len(pairs); i += 2 {
		l = append(l, api.Hit{Id: pairs[i], Dist: pairs[i+1]})
	}
	return l
}

// counted are n hits in order, no two the same, the first one of them at the distance from.
func counted(from, n int) []api.Hit {
	var l []api.Hit
	for i := range n {
		l = append(l, api.Hit{Id: uint64(n - i), Dist: uint64(from + i)})
	}
	return l
}

// edges are numbers around 0, around where signs begin, and up to 2^64 less 1.
func edges() []uint64 {
	return []uint64{0, 1, 2, math.MaxUint32, 1<<63 - 1, 1 << 63, math.MaxUint64 - 1, math.MaxUint64}
}

// edgeHits are all hits of the edges, in order.
func edgeHits() []api.Hit {
	var l []api.Hit
	for _, dist := range edges() {
		for _, id := range edges() {
			l = append(l, api.Hit{Id: id, Dist: dist})
		}
	}
	return l
}

// ordered is the order of hits as chapter 5 words it.
func ordered(a, b api.Hit) int {
	switch {
	case a.Dist < b.Dist, a.Dist == b.Dist && a.Id < b.Id:
		return -1
	case a == b:
		return 0
	}
	return 1
}

// put is l, with another hit at a place.
func put(l []api.Hit, place int, hit api.Hit) []api.Hit {
	m := slices.Clone(l)
	m[place] = hit
	return m
}

// behind is what stands in the room behind the end of a list: nearer than nearly all others.
var behind = api.Hit{Id: 77, Dist: 0}

// roomy is l, with room behind its end in which two nearer hits stand.
func roomy(l []api.Hit) []api.Hit {
	return slices.Concat(l, []api.Hit{behind, behind})[:len(l)]
}

// untouched holds l, and the room behind its end, against what roomy made of want.
func untouched(t *testing.T, what string, l, want []api.Hit) {
	t.Helper()
	if !slices.Equal(l[:len(l)+2], slices.Concat(want, []api.Hit{behind, behind})) {
		t.Errorf("%s: what was handed in is now %v, not %v", what, l[:len(l)+2], want)
	}
}

// checks holds what Check answers of a selection against the error that has to come; what may not be has no last hit either.
func checks(t *testing.T, k int, l []api.Hit, want api.Errno) {
	t.Helper()
	top := api.Top{K: k, Hits: l}
	if got := Check(top); got != want {
		t.Errorf("Check(%v): %d, not %d", top, got, want)
	}
	if got, ok := Last(top); want != api.OK && (ok || got != api.Hit{}) {
		t.Errorf("Last(%v): %v, %v", top, got, ok)
	}
}

// P6.1: each K, with and without hits.
func TestCheckOfEachK(t *testing.T) {
	for k := 1; k <= api.MaxK; k++ {
		checks(t, k, nil, api.OK)
		checks(t, k, []api.Hit{}, api.OK)
		checks(t, k, at(3, 4), api.OK)
	}
	for _, k := range noKs {
		checks(t, k, nil, api.ErrTop)
		checks(t, k, []api.Hit{}, api.ErrTop)
		checks(t, k, at(3, 4), api.ErrTop)
		checks(t, k, counted(0, api.MaxK), api.ErrTop)
		checks(t, k, counted(0, api.MaxK+1), api.ErrTop)
	}
}

// P6.1: fewer hits than K, as many, one more, and far more.
func TestCheckOfEachLength(t *testing.T) {
	for k := 1; k <= api.MaxK; k++ {
		for n := range k + 1 {
			checks(t, k, counted(5, n), api.OK)
		}
		checks(t, k, counted(5, k+1), api.ErrTop)
		checks(t, k, counted(5, k+2), api.ErrTop)
		checks(t, k, counted(5, api.MaxHits), api.ErrTop)
		// What stands in the room behind the end does not count.
		checks(t, k, roomy(counted(5, k)), api.OK)
	}
}

// P6.1: two hits out of order at each place, by their distance, and by their number.
func TestCheckOfOrder(t *testing.T) {
	for n := 2; n <= api.MaxK; n++ {
		for place := range n - 1 {
			far := counted(5, n)
			far[place], far[place+1] = far[place+1], far[place]
			checks(t, n, far, api.ErrTop)
			checks(t, api.MaxK, far, api.ErrTop)
			near := counted(5, n)
			near[place+1].Dist = near[place].Dist
			checks(t, n, near, api.ErrTop)
			near[place+1].Id = near[place].Id
			checks(t, n, near, api.OK)
			near[place+1].Id = near[place].Id + 1
			checks(t, n, near, api.OK)
		}
		for place := range n {
			if place > 0 {
				checks(t, n, put(counted(5, n), place, api.Hit{}), api.ErrTop)
			}
			if place < n-1 {
				checks(t, n, put(counted(5, n), place, api.Hit{Dist: math.MaxUint64}), api.ErrTop)
			}
		}
	}
}

// P6.1: all pairs of hits at the edges, and such as are the same.
func TestCheckOfPairs(t *testing.T) {
	for _, a := range edgeHits() {
		for _, b := range edgeHits() {
			want := api.OK
			if ordered(b, a) < 0 {
				want = api.ErrTop
			}
			checks(t, 2, []api.Hit{a, b}, want)
			checks(t, 4, []api.Hit{{}, a, b, b}, want)
		}
		checks(t, api.MaxK, slices.Repeat([]api.Hit{a}, api.MaxK), api.OK)
		checks(t, 3, []api.Hit{a, a, a, a}, api.ErrTop)
	}
}

// same holds what Same answers, both ways round.
func same(t *testing.T, a, b []api.Hit, want bool) {
	t.Helper()
	if Same(a, b) != want || Same(b, a) != want {
		t.Errorf("Same(%v, %v): not %v", a, b, want)
	}
}

// P6.1: none, and rows of unlike lengths.
func TestSameOfLengths(t *testing.T) {
	same(t, nil, nil, true)
	same(t, nil, []api.Hit{}, true)
	same(t, []api.Hit{}, []api.Hit{}, true)
	same(t, nil, []api.Hit{{}}, false)
	same(t, []api.Hit{}, []api.Hit{{}}, false)
	same(t, []api.Hit{{}}, []api.Hit{{}, {}}, false)
	for n := range 20 {
		l := counted(5, 20)
		for m := range 20 {
			same(t, l[:n], l[:m], n == m)
			same(t, l[20-n:], l[20-m:], n == m)
		}
		same(t, roomy(l[:n]), l[:n], true)
	}
}

// P6.1: rows that differ in just one Id, or one Dist, at each place.
func TestSameOfOneOther(t *testing.T) {
	for _, n := range []int{1, 2, 3, api.MaxK, api.MaxK + 1, 40} {
		l := counted(5, n)
		same(t, l, slices.Clone(l), true)
		for place, hit := range l {
			for _, x := range []uint64{1, 1 << 32, 1 << 63, math.MaxUint64} {
				same(t, l, put(l, place, api.Hit{Id: hit.Id + x, Dist: hit.Dist}), false)
				same(t, l, put(l, place, api.Hit{Id: hit.Id, Dist: hit.Dist + x}), false)
			}
		}
	}
}

// P6.1: one by one: in another order they are not the same, and in no order they may be.
func TestSameOfOrder(t *testing.T) {
	same(t, at(1, 2, 3, 4), at(3, 4, 1, 2), false)
	same(t, at(3, 4, 1, 2), at(3, 4, 1, 2), true)
	same(t, at(1, 2), at(2, 1), false)
	same(t, at(1, 1, 1, 1, 2, 2), at(1, 1, 2, 2, 2, 2), false)
	for i, a := range edgeHits() {
		for j, b := range edgeHits() {
			same(t, []api.Hit{a}, []api.Hit{b}, i == j)
			same(t, []api.Hit{a, b}, []api.Hit{b, a}, i == j)
		}
	}
}

// P6.2: each K from -1 to MaxK and 2, and those far off.
func TestNew(t *testing.T) {
	for k := -1; k <= api.MaxK+2; k++ {
		top, err := New(k)
		if slices.Contains(noKs, k) {
			if err != api.ErrArg || top.K != 0 || len(top.Hits) != 0 {
				t.Errorf("New(%d): %v, %d", k, top, err)
			}
			continue
		}
		if err != api.OK || top.K != k || len(top.Hits) != 0 {
			t.Errorf("New(%d): %v, %d", k, top, err)
		}
		checks(t, top.K, top.Hits, api.OK)
	}
	for _, k := range noKs {
		if top, err := New(k); err != api.ErrArg || top.K != 0 || len(top.Hits) != 0 {
			t.Errorf("New(%d): %v, %d", k, top, err)
		}
	}
}

// P6.2: of each K, with each number of hits: the last one, if it is full.
func TestLast(t *testing.T) {
	for k := 1; k <= api.MaxK; k++ {
		for n := range k {
			for _, l := range [][]api.Hit{counted(0, n), roomy(counted(5, n)), slices.Repeat([]api.Hit{{}}, n)} {
				if got, ok := Last(api.Top{K: k, Hits: l}); ok || got != (api.Hit{}) {
					t.Errorf("Last of %d of %d: %v, %v", n, k, got, ok)
				}
			}
		}
		for _, hit := range edgeHits() {
			// Hits at 0 stand ahead of it, or are the same.
			l := put(slices.Repeat([]api.Hit{{}}, k), k-1, hit)
			if got, ok := Last(api.Top{K: k, Hits: roomy(l)}); !ok || got != hit {
				t.Errorf("Last(%d: %v): %v, %v", k, l, got, ok)
			}
		}
	}
	l := roomy(at(6, 1, 4, 9))
	if got, ok := Last(api.Top{K: 2, Hits: l}); !ok || got != (api.Hit{Id: 4, Dist: 9}) {
		t.Errorf("Last(%v): %v, %v", l, got, ok)
	}
	untouched(t, "Last", l, at(6, 1, 4, 9))
}

// P6.2: of one that may not be there is no last one, though it has K hits, or more.
func TestLastOfBad(t *testing.T) {
	for _, top := range []api.Top{
		{}, {K: 0, Hits: at(1, 1)}, {K: -1, Hits: at(1, 1)}, {K: 2, Hits: at(1, 2, 1, 1)}, {K: 2, Hits: at(2, 1, 1, 1)},
		{K: 1, Hits: at(1, 1, 2, 2)}, {K: api.MaxK + 1, Hits: counted(0, api.MaxK+1)}, {K: math.MinInt, Hits: at(1, 1)},
		{K: math.MaxInt, Hits: at(1, 1)}, {K: 3, Hits: at(1, 1, 2, 3, 9, 2)},
	} {
		checks(t, top.K, top.Hits, api.ErrTop)
	}
}
