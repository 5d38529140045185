package lists

import (
	"iter"

	"quiver/api"
	"quiver/mask"
)

// Where answers the place of the list that has the slot, and whether one has; none has, if l may not be.
func Where(l api.Lists, slot int) (int, bool) {
	if Check(l) != api.OK {
		return 0, false
	}
	for place := range having(l, slot) {
		return place, true
	}
	return 0, false
}

// Union answers the slots of all the lists at these places.
func Union(l api.Lists, places ...int) (api.Mask, api.Errno) {
	if err := Check(l); err != api.OK {
		return api.Mask{}, err
	}
	all := mask.Or()
	for _, place := range places {
		if place < 0 || place >= len(l.Masks) {
			return api.Mask{}, api.ErrArg
		}
		all = mask.Or(all, l.Masks[place])
	}
	return all, api.OK
}

// having tells the places of the lists that have the slot: no more than one, if l may be.
func having(l api.Lists, slot int) iter.Seq[int] {
	return func(yield func(place int) bool) {
		for place, m := range l.Masks {
			if mask.Has(m, slot) && !yield(place) {
				return
			}
		}
	}
}
