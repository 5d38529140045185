package means

import (
	"slices"

	"quiver/api"
	"quiver/vec"
)

// refuseStart tells why nothing is drawn of l; OK, if it is.
func refuseStart(l [][]int32, draws []int) api.Errno {
	mayNotBe := func(draw int) bool { return draw < 0 || draw > api.MaxDraw }
	if len(draws) == 0 || len(draws) > api.MaxLists || slices.ContainsFunc(draws, mayNotBe) {
		return api.ErrArg
	}
	if err := refuseTrain(l); err != api.OK {
		return err
	}
	return refuseVectors(l...)
}

// refuseParts tells why l is not parted by c; OK, if it is.
func refuseParts(c, l [][]int32) api.Errno {
	if err := refuseCount(c); err != api.OK {
		return err
	}
	if err := refuseTrain(l); err != api.OK {
		return err
	}
	return refuseVectors(slices.Concat(c, l)...)
}

// refuseCount tells why so many can't be centroids; OK, if they can.
func refuseCount(c [][]int32) api.Errno {
	if len(c) == 0 || len(c) > api.MaxLists {
		return api.ErrArg
	}
	return api.OK
}

// refuseTrain tells why so many vectors can't be trained by; OK, if they can.
func refuseTrain(l [][]int32) api.Errno {
	switch {
	case len(l) == 0:
		return api.ErrNone
	case len(l) > api.MaxTrain:
		return api.ErrLong
	}
	return api.OK
}

// refuseVectors tells why not all of them may be, together; OK, if they may.
func refuseVectors(all ...[]int32) api.Errno {
	mayNotBe := func(v []int32) bool { return vec.Check(v) != api.OK }
	unlike := func(v []int32) bool { return len(v) != len(all[0]) }
	switch {
	// That one may not be is told ahead of unlike dimensions, wherever either of them stands.
	case slices.ContainsFunc(all, mayNotBe):
		return api.ErrVec
	case slices.ContainsFunc(all, unlike):
		return api.ErrDim
	}
	return api.OK
}
