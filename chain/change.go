package chain

import (
	"slices"

	"quiver/api"
	"quiver/vec"
)

// Put answers the chain with a version more, that is v from ts on; the one that was open ends there.
func Put(c []api.Version, ts uint64, v []int32) ([]api.Version, api.Errno) {
	if err := refuse(c, ts); err != api.OK {
		return nil, err
	}
	if err := vec.Of(v, dimension(c, v)); err != api.OK {
		return nil, err
	}
	if len(c) == api.MaxVersions {
		return nil, api.ErrFull
	}
	return changed(c, func(l []api.Version) []api.Version {
		return append(ended(l, ts), api.Version{Begin: ts, Vec: slices.Clone(v)})
	}), api.OK
}

// Del answers the chain whose open version ends at ts.
func Del(c []api.Version, ts uint64) ([]api.Version, api.Errno) {
	if err := refuse(c, ts); err != api.OK {
		return nil, err
	}
	if !slices.ContainsFunc(c, isOpen) {
		return nil, api.ErrNone
	}
	return changed(c, func(l []api.Version) []api.Version {
		return ended(l, ts)
	}), api.OK
}

// Prune answers the versions that are visible at some time from floor on, and all others.
func Prune(c []api.Version, floor uint64) ([]api.Version, []api.Version, api.Errno) {
	if err := Check(c); err != api.OK {
		return nil, nil, err
	}
	stays := func(v api.Version) bool {
		return lasts(v, floor)
	}
	goes := func(v api.Version) bool {
		return !stays(v)
	}
	return copied(where(c, stays)), copied(where(c, goes)), api.OK
}

// refuse tells why nothing may happen to c at ts; OK, if it may.
func refuse(c []api.Version, ts uint64) api.Errno {
	if err := Check(c); err != api.OK {
		return err
	}
	if ts <= lastTrace(c) || ts > api.MaxTs {
		return api.ErrTs
	}
	return api.OK
}

// dimension is the one that v has to have: its own, if there are no others.
func dimension(c []api.Version, v []int32) int {
	if len(c) == 0 {
		return len(v)
	}
	return len(c[0].Vec)
}

// changed is what becomes of a copy of c.
func changed(c []api.Version, change func(l []api.Version) []api.Version) []api.Version {
	return change(copied(slices.All(c)))
}

// ended is l, whose open version ends at ts.
func ended(l []api.Version, ts uint64) []api.Version {
	for i := range where(l, isOpen) {
		l[i].End = ts
	}
	return l
}
