package arena

import (
	"iter"
	"slices"

	"quiver/api"
)

// used tells the used ones of l, with their slots.
func used(l []api.Cell) iter.Seq2[int, api.Cell] {
	return func(yield func(slot int, c api.Cell) bool) {
		for slot, c := range l {
			if c.Used && !yield(slot, c) {
				return
			}
		}
	}
}

// copied is an arena with memory of its own that has the used ones of l, which has no more cells than there are slots, each in its slot.
func copied(l []api.Cell) api.Arena {
	a := New()
	for slot, c := range used(l) {
		a.Cells[slot] = owned(c)
	}
	return a
}

// owned is c with a vector of its own.
func owned(c api.Cell) api.Cell {
	c.Version.Vec = slices.Clone(c.Version.Vec)
	return c
}
