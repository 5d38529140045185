package vec

import "quiver/api"

// Nearest answers the place of the one of l that is the nearest to v, of several the first one.
func Nearest(l [][]int32, v []int32) (int, api.Errno) {
	if len(l) == 0 {
		return 0, api.ErrNone
	}
	if err := Check(v); err != api.OK {
		return 0, err
	}
	if err := refuse(len(v), l...); err != api.OK {
		return 0, err
	}
	place, least := 0, distance(l[0], v)
	for i, other := range l {
		// One that is just as far stands behind, and does not take the place.
		if far := distance(other, v); far < least {
			place, least = i, far
		}
	}
	return place, api.OK
}

// Mean answers the mean of l.
func Mean(l [][]int32) ([]int32, api.Errno) {
	if len(l) == 0 {
		return nil, api.ErrNone
	}
	if err := refuse(len(l[0]), l...); err != api.OK {
		return nil, err
	}
	sums := sumsOf(l)
	mean := make([]int32, len(l[0]))
	for i := range mean {
		mean[i] = int32(parted(sums[i], int64(len(l))))
	}
	return mean, api.OK
}

// sumsOf adds up the vectors, each component for itself.
func sumsOf(l [][]int32) [api.MaxDim]int64 {
	var sums [api.MaxDim]int64
	for _, v := range l {
		for i, component := range v {
			sums[i] += int64(component)
		}
	}
	return sums
}

// parted is the sum divided by n, which is above 0, rounded down.
func parted(sum, n int64) int64 {
	quotient := sum / n
	// The language rounds towards 0, which is up for what is below it.
	if sum%n < 0 {
		quotient--
	}
	return quotient
}
