package means

import (
	"iter"
	"slices"

	"quiver/api"
	"quiver/vec"
)

// drawn answers for each draw a copy of its vector of l, which is not empty.
func drawn(l [][]int32, draws []int) [][]int32 {
	var c [][]int32
	for _, draw := range draws {
		c = append(c, l[draw%len(l)])
	}
	return copied(c)
}

// parted answers the centroid of each of l, if all of c and l may be.
func parted(c, l [][]int32) ([]int, api.Errno) {
	var places []int
	for _, v := range l {
		place, err := vec.Nearest(c, v)
		if err != api.OK {
			return nil, err
		}
		places = append(places, place)
	}
	return places, api.OK
}

// moved answers what the centroids c are, if places tells the centroid of each of l.
func moved(c, l [][]int32, places []int) ([][]int32, api.Errno) {
	next := copied(c)
	for place := range next {
		own := slices.Collect(members(l, places, place))
		if len(own) == 0 {
			continue
		}
		mean, err := vec.Mean(own)
		if err != api.OK {
			return nil, err
		}
		next[place] = mean
	}
	return next, api.OK
}

// members tells those of l whose centroid is the one at place.
func members(l [][]int32, places []int, place int) iter.Seq[[]int32] {
	return func(yield func(v []int32) bool) {
		for i, v := range l {
			if places[i] == place && !yield(v) {
				return
			}
		}
	}
}

// copied answers c's vectors in new memory, each one in its own.
func copied(c [][]int32) [][]int32 {
	var l [][]int32
	for _, v := range c {
		l = append(l, slices.Clone(v))
	}
	return l
}
