package chain

import (
	"iter"
	"slices"

	"quiver/api"
)

// where tells the versions of c of which something holds, with their places.
func where(c []api.Version, holds func(v api.Version) bool) iter.Seq2[int, api.Version] {
	return func(yield func(i int, v api.Version) bool) {
		for i, v := range c {
			if holds(v) && !yield(i, v) {
				return
			}
		}
	}
}

func isOpen(v api.Version) bool {
	return v.End == 0
}

// lasts tells whether v is open, or ends above t.
func lasts(v api.Version, t uint64) bool {
	return isOpen(v) || v.End > t
}

// copied are the versions that are told, each with a vector of its own.
func copied(told iter.Seq2[int, api.Version]) []api.Version {
	var l []api.Version
	for _, v := range told {
		v.Vec = slices.Clone(v.Vec)
		l = append(l, v)
	}
	return l
}
