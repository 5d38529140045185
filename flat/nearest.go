package flat

import (
	"iter"
	"slices"

	"quiver/api"
	"quiver/topk"
	"quiver/vec"
)

// asker is a query of which hits are made.
type asker struct {
	api.Query
}

// hit is how far the row's vector is from the query's.
func (a asker) hit(r api.Row) (api.Hit, api.Errno) {
	dist, err := vec.Dist(r.Vec, a.Vec)
	return api.Hit{Id: r.Id, Dist: dist}, err
}

// nearest answers the first K hits of l, if the query and all of l may be, and l has no more than MaxHits.
func nearest(l []api.Row, q api.Query) ([]api.Hit, api.Errno) {
	hits, err := hitsOf(l, asker{q}.hit)
	if err != api.OK {
		return nil, err
	}
	return topk.First(hits, q.K)
}

// hitsOf answers what is made of each of l, or the error of the first one of which nothing is.
func hitsOf(l []api.Row, hit func(r api.Row) (api.Hit, api.Errno)) ([]api.Hit, api.Errno) {
	var hits []api.Hit
	for _, r := range l {
		h, err := hit(r)
		if err != api.OK {
			return nil, err
		}
		hits = append(hits, h)
	}
	return hits, api.OK
}

// refuse tells why nothing is looked for among l; OK, if it is.
func refuse(l []api.Row) api.Errno {
	mayNotBe := func(r api.Row) bool { return vec.Check(r.Vec) != api.OK }
	switch {
	// That a row may not be is told ahead of how many they are.
	case slices.ContainsFunc(l, mayNotBe):
		return api.ErrRow
	case len(l) > api.MaxHits:
		return api.ErrLong
	}
	return api.OK
}

// used tells the used cells of a whose slots are in, with these.
func used(a api.Arena, in func(slot int) bool) iter.Seq2[int, api.Cell] {
	return func(yield func(slot int, c api.Cell) bool) {
		for slot, c := range a.Cells {
			if c.Used && in(slot) && !yield(slot, c) {
				return
			}
		}
	}
}

// rowsOf answers the row of each cell that is told, which shares its vector.
func rowsOf(told iter.Seq2[int, api.Cell]) []api.Row {
	var l []api.Row
	for _, c := range told {
		l = append(l, api.Row{Id: c.Id, Vec: c.Version.Vec})
	}
	return l
}
