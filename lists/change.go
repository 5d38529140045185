package lists

import (
	"slices"

	"quiver/api"
	"quiver/arena"
	"quiver/mask"
	"quiver/vec"
)

// Build answers the lists of these centroids that agree with a.
func Build(a api.Arena, centroids [][]int32) (api.Lists, api.Errno) {
	switch {
	case arena.Check(a) != api.OK:
		return api.Lists{}, api.ErrArena
	case !areCentroids(centroids):
		return api.Lists{}, api.ErrLists
	case len(centroids) == 0:
		return api.Lists{}, api.OK
	}
	slots, err := parted(a, centroids)
	if err != api.OK {
		return api.Lists{}, err
	}
	empty := api.Lists{Centroids: centroids, Masks: make([]api.Mask, len(centroids))}
	return changed(empty, func(place int, _ api.Mask) (api.Mask, api.Errno) {
		return mask.Of(slots[place]...)
	})
}

// Add answers l with the slot, which is in no list, in the one to which v belongs.
func Add(l api.Lists, slot int, v []int32) (api.Lists, api.Errno) {
	if err := refuseAdd(l, slot, v); err != api.OK {
		return api.Lists{}, err
	}
	if len(l.Centroids) == 0 {
		return copied(l), api.OK
	}
	own, err := vec.Nearest(l.Centroids, v)
	if err != api.OK {
		return api.Lists{}, err
	}
	return changed(l, func(place int, m api.Mask) (api.Mask, api.Errno) {
		if place != own {
			return m, api.OK
		}
		return mask.With(m, slot)
	})
}

// Remove answers l with none of slots in a list.
func Remove(l api.Lists, slots ...int) (api.Lists, api.Errno) {
	if err := Check(l); err != api.OK {
		return api.Lists{}, err
	}
	gone, err := mask.Of(slots...)
	if err != api.OK {
		return api.Lists{}, err
	}
	return changed(l, func(_ int, m api.Mask) (api.Mask, api.Errno) {
		return mask.Minus(m, gone), api.OK
	})
}

// refuseAdd tells why the slot is not added; OK, if just the dimension of v is left to be asked.
func refuseAdd(l api.Lists, slot int, v []int32) api.Errno {
	if err := Check(l); err != api.OK {
		return err
	}
	if _, err := mask.Of(slot); err != api.OK {
		return err
	}
	if _, there := Where(l, slot); there {
		return api.ErrArg
	}
	return vec.Check(v)
}

// parted answers for each of centroids the slots whose vectors belong to it.
func parted(a api.Arena, centroids [][]int32) ([][]int, api.Errno) {
	slots := make([][]int, len(centroids))
	for slot, c := range a.Cells {
		if !c.Used {
			continue
		}
		place, err := vec.Nearest(centroids, c.Version.Vec)
		if err != api.OK {
			return nil, err
		}
		slots[place] = append(slots[place], slot)
	}
	return slots, api.OK
}

// changed is a copy of l in which each mask is what change makes of it.
func changed(l api.Lists, change func(place int, m api.Mask) (api.Mask, api.Errno)) (api.Lists, api.Errno) {
	c := copied(l)
	for place, m := range c.Masks {
		next, err := change(place, m)
		if err != api.OK {
			return api.Lists{}, err
		}
		c.Masks[place] = next
	}
	return c, api.OK
}

// copied is l with memory of its own, each centroid too.
func copied(l api.Lists) api.Lists {
	c := api.Lists{Masks: slices.Clone(l.Masks)}
	for _, v := range l.Centroids {
		c.Centroids = append(c.Centroids, slices.Clone(v))
	}
	return c
}
