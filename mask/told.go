package mask

import (
	"iter"
	"math/bits"
	"slices"

	"quiver/api"
)

// Has tells whether m has the slot.
func Has(m api.Mask, slot int) bool {
	return isSlot(slot) && And(m, single(slot)) != Or()
}

// Count answers how many slots m has.
func Count(m api.Mask) int {
	n := 0
	for _, word := range clean(m) {
		n += bits.OnesCount64(word)
	}
	return n
}

// Slots answers the slots of m, rising.
func Slots(m api.Mask) []int {
	return slices.Collect(all(m))
}

// Next answers the least slot of m from from on.
func Next(m api.Mask, from int) (int, bool) {
	for slot := range all(Minus(m, below(from))) {
		return slot, true
	}
	return 0, false
}

// Place answers how many slots of m are below the number slot.
func Place(m api.Mask, slot int) int {
	return Count(And(m, below(slot)))
}

// all tells the slots of m, rising.
func all(m api.Mask) iter.Seq[int] {
	return func(yield func(slot int) bool) {
		for i, word := range clean(m) {
			for ; word != 0; word &= word - 1 {
				if !yield(i*wide + bits.TrailingZeros64(word)) {
					return
				}
			}
		}
	}
}
