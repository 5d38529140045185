package probe

import (
	"slices"

	"quiver/api"
	"quiver/arena"
	"quiver/codec"
	"quiver/lists"
)

// isN tells whether so many lists may be asked for.
func isN(n int) bool {
	return 1 <= n && n <= api.MaxProbe
}

// refuse tells why nothing is looked for by c; OK, if just the dimension is left to be asked.
func refuse(c [][]int32) api.Errno {
	if len(c) == 0 {
		return api.ErrUntrained
	}
	// Where there are too many centroids, that is told without a mask for each.
	return lists.Check(api.Lists{Centroids: c, Masks: make([]api.Mask, min(len(c), api.MaxLists))})
}

// refuseSearch tells why a is not searched by l; OK, if just the dimensions are left to be asked.
func refuseSearch(a api.Arena, l api.Lists, p api.Probe) api.Errno {
	if err := Check(p); err != api.OK {
		return err
	}
	if err := lists.Check(l); err != api.OK {
		return err
	}
	if err := arena.Check(a); err != api.OK {
		return err
	}
	return refuse(l.Centroids)
}

// refuseRows tells why nothing is looked for among the rows by c; OK, if just the dimensions, and how many belong, are left to be asked.
func refuseRows(rows []api.Row, c [][]int32, p api.Probe) api.Errno {
	if err := Check(p); err != api.OK {
		return err
	}
	if err := refuse(c); err != api.OK {
		return err
	}
	mayNotBe := func(r api.Row) bool { return codec.CheckRow(r) != api.OK }
	if slices.ContainsFunc(rows, mayNotBe) {
		return api.ErrRow
	}
	return api.OK
}
