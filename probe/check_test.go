package probe

import (
	"slices"
	"testing"

	"quiver/api"
)

// P14.1: each K from far below 0 to far above MaxK.
func TestCheckOfKs(t *testing.T) {
	for k := -300; k <= 300; k++ {
		want := api.ErrArg
		if k >= 1 && k <= 16 {
			want = api.OK
		}
		for _, n := range []int{1, 2, maxProbe} {
			checks(t, probing(k, n, 5, 5), want)
			checks(t, probing(k, n, 0, 5, 6, 7, 8), want)
		}
	}
	for _, k := range badKs() {
		for _, n := range goodNs() {
			checks(t, probing(k, n, 5, 5), api.ErrArg)
		}
	}
}

// P14.1: each N from far below 0 to far above how many lists there may be, and around MaxProbe.
func TestCheckOfNs(t *testing.T) {
	for n := -300; n <= 300; n++ {
		want := api.ErrArg
		if n >= 1 {
			want = api.OK
		}
		checks(t, probing(1, n, 5, 5), want)
		checks(t, probing(16, n, 0, 5, 6, 7, 8), want)
		if n > 0 {
			want = api.ErrArg
		} else {
			want = api.OK
		}
		checks(t, probing(1, 1048576+n, 5, 5), want)
	}
	for k := 1; k <= maxK; k++ {
		for _, n := range goodNs() {
			checks(t, probing(k, n, 5, 5), api.OK)
		}
		for _, n := range badNs() {
			checks(t, probing(k, n, 5, 5), api.ErrArg)
		}
	}
}

// P14.1: vectors of all kinds.
func TestCheckOfVecs(t *testing.T) {
	for k := 1; k <= maxK; k++ {
		for _, n := range goodNs() {
			for _, v := range goodVecs() {
				checks(t, probing(k, n, 9, v...), api.OK)
			}
			for _, v := range badVecs() {
				checks(t, probing(k, n, 9, v...), api.ErrVec)
			}
		}
	}
	checks(t, probing(1, 1, 9, most), api.OK)
	checks(t, probing(1, 1, 9, most+1), api.ErrVec)
	checks(t, probing(1, 1, 9, least), api.OK)
	checks(t, probing(1, 1, 9, least-1), api.ErrVec)
	checks(t, probing(1, 1, 9, 1, 2, 3, most), api.OK)
	checks(t, probing(1, 1, 9, 1, 2, 3, 4, 5), api.ErrVec)
	// What stands in the room behind the end is not of the vector.
	checks(t, probing(1, 1, 9, []int32{5, most + 1}[:1]...), api.OK)
	checks(t, probing(1, 1, 9, []int32{5}[:0]...), api.ErrVec)
}

// P14.1: a K or an N that may not be, or both, is told ahead of a vector that may not be.
func TestCheckOrderOfErrors(t *testing.T) {
	for _, v := range slices.Concat(goodVecs(), badVecs()) {
		for _, k := range badKs() {
			checks(t, probing(k, 1, 9, v...), api.ErrArg)
			checks(t, probing(k, maxProbe, 9, v...), api.ErrArg)
			for _, n := range badNs() {
				checks(t, probing(k, n, 9, v...), api.ErrArg)
			}
		}
		for _, n := range badNs() {
			checks(t, probing(1, n, 9, v...), api.ErrArg)
			checks(t, probing(16, n, 9, v...), api.ErrArg)
		}
	}
	checks(t, api.Probe{}, api.ErrArg)
}

// P14.1: no Ts is refused.
func TestCheckOfTimes(t *testing.T) {
	for _, ts := range edgeTimes() {
		checks(t, probing(1, 1, ts, 5), api.OK)
		checks(t, probing(1, 1, ts), api.ErrVec)
		checks(t, probing(0, 1, ts, 5), api.ErrArg)
	}
}
