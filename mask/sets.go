package mask

import "quiver/api"

// wide is how many bits a word has, and full a word of which all are 1.
const (
	wide = 64
	full = 1<<wide - 1
)

// And answers the mask of the slots that all of l have.
func And(l ...api.Mask) api.Mask {
	return byWord(func(i int) uint64 {
		word := uint64(full)
		for _, m := range l {
			word &= m[i]
		}
		return word
	})
}

// Or answers the mask of the slots that one of l has at least.
func Or(l ...api.Mask) api.Mask {
	return byWord(func(i int) uint64 {
		word := uint64(0)
		for _, m := range l {
			word |= m[i]
		}
		return word
	})
}

// Minus answers the mask of the slots that a has, and b has not.
func Minus(a, b api.Mask) api.Mask {
	return byWord(func(i int) uint64 {
		return a[i] &^ b[i]
	})
}

// Not answers the mask of the slots that m has not.
func Not(m api.Mask) api.Mask {
	return byWord(func(i int) uint64 {
		return ^m[i]
	})
}

// clean is the mask of the slots of m: its bits that stand for no slot are gone.
func clean(m api.Mask) api.Mask {
	return byWord(func(i int) uint64 {
		return m[i]
	})
}

// byWord is the mask of which the word i has those bits of told(i) that stand for slots, so that it may be, whatever is told.
func byWord(told func(i int) uint64) api.Mask {
	var m api.Mask
	for i := range m {
		m[i] = told(i) & lowest(api.MaxSlots-i*wide)
	}
	return m
}

// below is the mask of all slots below the number n, which may be any.
func below(n int) api.Mask {
	// Far off a number of bits would be none any more.
	n = min(max(n, 0), api.MaxSlots)
	return byWord(func(i int) uint64 {
		return lowest(n - i*wide)
	})
}

// single is the mask of one slot.
func single(slot int) api.Mask {
	return Minus(below(slot+1), below(slot))
}

// lowest is a word of which the n least bits are 1: none, if n is below 0, and no more than there are.
func lowest(n int) uint64 {
	return full >> (wide - min(max(n, 0), wide))
}
