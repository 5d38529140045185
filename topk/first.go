package topk

import (
	"iter"

	"quiver/api"
	"quiver/vec"
)

// Offer answers the selection with the first K of its hits and of those of l.
func Offer(t api.Top, l ...api.Hit) (api.Top, api.Errno) {
	if err := Check(t); err != api.OK {
		return api.Top{}, err
	}
	if tooMany(l) {
		return api.Top{}, api.ErrLong
	}
	return api.Top{K: t.K, Hits: firstOf(t.K, t.Hits, l)}, api.OK
}

// First answers the first k of l.
func First(l []api.Hit, k int) ([]api.Hit, api.Errno) {
	return Merge(k, l)
}

// Merge answers the first k of all rows together.
func Merge(k int, l ...[]api.Hit) ([]api.Hit, api.Errno) {
	switch {
	case !isK(k):
		return nil, api.ErrArg
	case tooMany(l...):
		return nil, api.ErrLong
	}
	return firstOf(k, l...), api.OK
}

// tooMany tells whether the rows have more than MaxHits, all together.
func tooMany(rows ...[]api.Hit) bool {
	count := 0
	for _, row := range rows {
		count += len(row)
	}
	return count > api.MaxHits
}

// firstOf keeps no more than k hits at a time.
func firstOf(k int, rows ...[]api.Hit) []api.Hit {
	in := keeper{most: k}
	letIn := func(hit api.Hit) bool {
		return in.Len() < in.most || vec.Compare(hit, in.furthest()) < 0
	}
	for hit := range together(rows...) {
		if letIn(hit) {
			in.take(hit)
		}
	}
	return in.empty()
}

// together tells the hits of all rows, one row behind the other.
func together(rows ...[]api.Hit) iter.Seq[api.Hit] {
	return func(yield func(hit api.Hit) bool) {
		for _, row := range rows {
			for _, hit := range row {
				if !yield(hit) {
					return
				}
			}
		}
	}
}
