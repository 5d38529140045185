package vec

import (
	"cmp"

	"quiver/api"
)

// Dist answers the distance of both.
func Dist(a, b []int32) (uint64, api.Errno) {
	if err := refuse(len(a), a, b); err != api.OK {
		return 0, err
	}
	return distance(a, b), api.OK
}

// Compare tells which one stands ahead in the order of hits: -1 if it is a, 1 if it is b, 0 if they are the same.
func Compare(a, b api.Hit) int {
	return cmp.Or(cmp.Compare(a.Dist, b.Dist), cmp.Compare(a.Id, b.Id))
}

// distance is that of two vectors of one dimension.
func distance(a, b []int32) uint64 {
	var sum uint64
	for x, y := range together(a, b) {
		// Components are below 2^30 on either side, so that a square is below 2^62, and MaxDim of them are below 2^64.
		apart := int64(x) - int64(y)
		sum += uint64(apart * apart)
	}
	return sum
}
