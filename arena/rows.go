package arena

import (
	"cmp"
	"slices"

	"quiver/api"
)

// Of answers the slots of the versions of a row, by Begin, by slot.
func Of(a api.Arena, id uint64) ([]int, api.Errno) {
	if err := Check(a); err != api.OK {
		return nil, err
	}
	return ordered(a, func(c api.Cell) bool { return c.Id == id }), api.OK
}

// ByRows answers the cells by rows: the used ones, by Id, by Begin, by slot.
func ByRows(a api.Arena) ([]api.Cell, api.Errno) {
	if err := Check(a); err != api.OK {
		return nil, err
	}
	var l []api.Cell
	for _, slot := range ordered(a, func(api.Cell) bool { return true }) {
		l = append(l, owned(a.Cells[slot]))
	}
	return l, api.OK
}

// Packed answers an arena that has these cells in the first slots, in their order.
func Packed(l []api.Cell) (api.Arena, api.Errno) {
	if len(l) > api.MaxSlots {
		return api.Arena{}, api.ErrFull
	}
	if !every(l, isSound) {
		return api.Arena{}, api.ErrArg
	}
	return copied(l), api.OK
}

// ordered are the slots of the used cells that are wanted, by Id, by Begin, by slot.
func ordered(a api.Arena, wanted func(c api.Cell) bool) []int {
	var slots []int
	for slot, c := range used(a.Cells) {
		if wanted(c) {
			slots = append(slots, slot)
		}
	}
	slices.SortFunc(slots, func(x, y int) int {
		one, other := a.Cells[x], a.Cells[y]
		return cmp.Or(cmp.Compare(one.Id, other.Id), cmp.Compare(one.Version.Begin, other.Version.Begin), cmp.Compare(x, y))
	})
	return slots
}
