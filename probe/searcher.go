package probe

import (
	"cmp"
	"iter"
	"slices"

	"quiver/api"
	"quiver/flat"
	"quiver/lists"
	"quiver/mask"
	"quiver/vec"
)

// searcher is a probe, with the centroids by which it searches.
type searcher struct {
	api.Probe
	centroids [][]int32
	order     []int // the places of all centroids, the nearest one first
}

// searcherOf is the searcher of p, if p and the centroids may be; an error, if their dimensions are unlike.
func searcherOf(p api.Probe, centroids [][]int32) (searcher, api.Errno) {
	order, err := ordered(centroids, p.Query.Vec)
	return searcher{p, centroids, order}, err
}

// asked tells the places of the centroids whose lists are asked, the nearest one first.
func (s searcher) asked() iter.Seq[int] {
	return func(yield func(place int) bool) {
		for _, place := range s.order[:min(s.N, len(s.order))] {
			if !yield(place) {
				return
			}
		}
	}
}

// looked answers the slots that are looked at: those of the lists that are asked, whose versions are visible at Ts.
func (s searcher) looked(a api.Arena, l api.Lists) (api.Mask, api.Errno) {
	in, err := lists.Union(l, slices.Collect(s.asked())...)
	if err != api.OK {
		return api.Mask{}, err
	}
	seen, err := flat.Visible(a, s.Ts)
	return mask.And(in, seen), err
}

// belonging answers those of rows, all of which may be, that belong to a place that is asked; they share their vectors.
func (s searcher) belonging(rows []api.Row) ([]api.Row, api.Errno) {
	in := map[int]struct{}{}
	for place := range s.asked() {
		in[place] = struct{}{}
	}
	var own []api.Row
	for _, r := range rows {
		// The dimension of one that is left out counts as well.
		place, err := vec.Nearest(s.centroids, r.Vec)
		if err != api.OK {
			return nil, err
		}
		if _, ok := in[place]; ok {
			own = append(own, r)
		}
	}
	return own, api.OK
}

// ordered are the places of all centroids, by their distance from v, then by place.
func ordered(centroids [][]int32, v []int32) ([]int, api.Errno) {
	var places []int
	var far []uint64
	for place, centroid := range centroids {
		dist, err := vec.Dist(centroid, v)
		if err != api.OK {
			return nil, err
		}
		places, far = append(places, place), append(far, dist)
	}
	slices.SortFunc(places, func(x, y int) int {
		return cmp.Or(cmp.Compare(far[x], far[y]), cmp.Compare(x, y))
	})
	return places, api.OK
}
