package flat

import (
	"slices"
	"testing"

	"quiver/api"
)

// checks holds what Check answers.
func checks(t *testing.T, q api.Query, want api.Errno) {
	t.Helper()
	if err := Check(q); err != want {
		t.Errorf("Check(%v): %d, not %d", q, err, want)
	}
}

// P11.1 to P11.3: the chapter's examples.
func TestExamples(t *testing.T) {
	a := laid(at(7, 5), at(2, 9))
	both := maskOf(0, 1)
	scans(t, a, both, query(2, 6), hits(7, 1, 2, 9), api.OK)
	scans(t, a, maskOf(1), query(2, 6), hits(2, 9), api.OK)
	scans(t, a, api.Mask{}, query(1, 6), nil, api.OK)
	scans(t, a, both, query(0, 6), nil, api.ErrArg)
	scans(t, a, both, query(2, 6, 6), nil, api.ErrDim)
}

// P11.1: each K from far below 0 to far above MaxK, of vectors that may be, and that may not: K is told first.
func TestCheckOfKs(t *testing.T) {
	for k := -300; k <= 300; k++ {
		want := api.ErrArg
		if k >= 1 && k <= 16 {
			want = api.OK
		}
		checks(t, query(k, 5), want)
		checks(t, query(k, 5, 6, 7, 8), want)
		if want == api.OK {
			want = api.ErrVec
		}
		checks(t, query(k), want)
		checks(t, query(k, 1, 2, 3, 4, 5), want)
	}
	for _, k := range badKs() {
		for _, v := range slices.Concat(goodVecs(), badVecs()) {
			checks(t, query(k, v...), api.ErrArg)
		}
	}
}

// P11.1: vectors of all kinds.
func TestCheckOfVecs(t *testing.T) {
	for k := 1; k <= maxK; k++ {
		for _, v := range goodVecs() {
			checks(t, query(k, v...), api.OK)
		}
		for _, v := range badVecs() {
			checks(t, query(k, v...), api.ErrVec)
		}
	}
	checks(t, api.Query{}, api.ErrArg)
	checks(t, query(1, most), api.OK)
	checks(t, query(1, most+1), api.ErrVec)
	checks(t, query(1, least), api.OK)
	checks(t, query(1, least-1), api.ErrVec)
	// What stands in the room behind the end is not of the vector.
	checks(t, query(1, []int32{5, most + 1}[:1]...), api.OK)
	checks(t, query(1, []int32{5}[:0]...), api.ErrVec)
}

// P11.2, P11.3: each K, of as many as there are, of fewer and of more; and each K that may not be.
func TestAllKs(t *testing.T) {
	a, l := laid(), []api.Row(nil)
	for n := range 20 {
		var inOrder []api.Hit
		for i := range n {
			inOrder = append(inOrder, api.Hit{Id: uint64(100 - i), Dist: uint64(i * i)})
		}
		for k := 1; k <= maxK; k++ {
			scans(t, a, maskOf(spread(0, slots, 1)...), query(k, 50), inOrder[:min(n, k)], api.OK)
			rows(t, l, query(k, 50), inOrder[:min(n, k)], api.OK)
		}
		for _, k := range badKs() {
			scans(t, a, maskOf(spread(0, slots, 1)...), query(k, 50), nil, api.ErrArg)
			rows(t, l, query(k, 50), nil, api.ErrArg)
		}
		// The slots go on from behind and from the middle, so that they tell nothing of the order.
		a.Cells[n*37%slots] = at(uint64(100-n), int32(50+n))
		l = slices.Insert(l, n/2, row(uint64(100-n), int32(50-n)))
	}
}
