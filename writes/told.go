package writes

import (
	"iter"
	"maps"
	"slices"

	"quiver/api"
)

// Find answers the write of that row, and whether there is one.
func Find(l []api.Write, coll int, id uint64) (api.Write, bool) {
	w, ok := written(l, coll)[id]
	return owned(w), ok
}

// Of answers the writes of that collection, in order.
func Of(l []api.Write, coll int) []api.Write {
	return copied(slices.SortedFunc(maps.Values(written(l, coll)), order))
}

// Overlay answers the rows as the transaction sees them, of that collection.
func Overlay(l []api.Write, coll int, rows []api.Row) ([]api.Row, api.Errno) {
	if err := refuse(l, coll); err != api.OK {
		return nil, err
	}
	if !areRows(rows) {
		return nil, api.ErrRow
	}
	var all []api.Row
	for r := range seen(written(l, coll), rows) {
		r.Vec = slices.Clone(r.Vec)
		all = append(all, r)
	}
	slices.SortFunc(all, byId)
	return all, api.OK
}

// written are the writes of that collection, by Id; none, if l may not be.
func written(l []api.Write, coll int) map[uint64]api.Write {
	if Check(l) != api.OK {
		return nil
	}
	of := map[uint64]api.Write{}
	for _, w := range l {
		if w.Coll == coll {
			of[w.Id] = w
		}
	}
	return of
}

// seen tells the rows that stay as they are, and those that are written and not Gone; in no order, as none is told twice.
func seen(written map[uint64]api.Write, rows []api.Row) iter.Seq[api.Row] {
	return func(yield func(r api.Row) bool) {
		for _, r := range rows {
			if _, is := written[r.Id]; !is && !yield(r) {
				return
			}
		}
		for _, w := range written {
			if !w.Gone && !yield(api.Row{Id: w.Id, Vec: w.Vec}) {
				return
			}
		}
	}
}
