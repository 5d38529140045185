package arena

import (
	"slices"

	"quiver/api"
	"quiver/codec"
)

// Put answers the arena whose least free slot has that version of the row, and which slot that is.
func Put(a api.Arena, id uint64, v api.Version) (api.Arena, int, api.Errno) {
	if err := Check(a); err != api.OK {
		return api.Arena{}, 0, err
	}
	if err := codec.CheckVersion(v); err != api.OK {
		return api.Arena{}, 0, err
	}
	slot := slices.IndexFunc(a.Cells, func(c api.Cell) bool { return !c.Used })
	if slot < 0 {
		return api.Arena{}, 0, api.ErrFull
	}
	put := copied(a.Cells)
	put.Cells[slot] = owned(api.Cell{Used: true, Id: id, Version: v})
	return put, slot, api.OK
}

// End answers the arena in which the version in the slot, that has no End, ends at ts.
func End(a api.Arena, slot int, ts uint64) (api.Arena, api.Errno) {
	if err := Check(a); err != api.OK {
		return api.Arena{}, err
	}
	if !isUsed(a, slot) {
		return api.Arena{}, api.ErrSlot
	}
	v := a.Cells[slot].Version
	if v.End != 0 || ts <= v.Begin {
		return api.Arena{}, api.ErrArg
	}
	v.End = ts
	if codec.CheckVersion(v) != api.OK {
		return api.Arena{}, api.ErrArg
	}
	ended := copied(a.Cells)
	ended.Cells[slot].Version.End = ts
	return ended, api.OK
}

// Drop answers the arena in which these slots are free, each of which has to be used.
func Drop(a api.Arena, slots ...int) (api.Arena, api.Errno) {
	if err := Check(a); err != api.OK {
		return api.Arena{}, err
	}
	dropped := map[int]struct{}{}
	for _, slot := range slots {
		if _, twice := dropped[slot]; twice || !isUsed(a, slot) {
			return api.Arena{}, api.ErrSlot
		}
		dropped[slot] = struct{}{}
	}
	left := copied(a.Cells)
	for slot := range dropped {
		left.Cells[slot] = api.Cell{}
	}
	return left, api.OK
}

// isUsed tells whether the arena has such a slot, and it is used.
func isUsed(a api.Arena, slot int) bool {
	return 0 <= slot && slot < len(a.Cells) && a.Cells[slot].Used
}
