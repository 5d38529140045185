package mask

import (
	"math"
	"slices"
	"testing"

	"quiver/api"
)

// Here stands what the chapter says, once more and as plainly as it does, with what is asked of all calls.

const slots = 96 // how many there are

// power is 2 to the n.
func power(n int) uint64 {
	p := uint64(1)
	for range n {
		p *= 2
	}
	return p
}

// wordedBit tells whether the bit n modulo 64 of the word n / 64 is 1, for n from 0 to 127.
func wordedBit(m api.Mask, n int) bool {
	return m[n/64]/power(n%64)%2 == 1
}

func wordedHas(m api.Mask, slot int) bool {
	return slot >= 0 && slot < slots && wordedBit(m, slot)
}

func wordedMask(m api.Mask) bool {
	for n := slots; n < 128; n++ {
		if wordedBit(m, n) {
			return false
		}
	}
	return true
}

// wordedSlots are the slots of m, rising.
func wordedSlots(m api.Mask) []int {
	var l []int
	for slot := range slots {
		if wordedBit(m, slot) {
			l = append(l, slot)
		}
	}
	return l
}

// of is the mask of the slots of which something holds.
func of(holds func(slot int) bool) api.Mask {
	var m api.Mask
	for slot := range slots {
		if holds(slot) {
			m[slot/64] += power(slot % 64)
		}
	}
	return m
}

// laid is the mask of just these slots.
func laid(l ...int) api.Mask {
	return of(func(slot int) bool { return slices.Contains(l, slot) })
}

func wordedOf(l ...int) (api.Mask, api.Errno) {
	for _, slot := range l {
		if slot < 0 || slot >= slots {
			return api.Mask{}, api.ErrArg
		}
	}
	return laid(l...), api.OK
}

func wordedRange(a, b int) (api.Mask, api.Errno) {
	if a < 0 || b > slots || a > b {
		return api.Mask{}, api.ErrArg
	}
	return of(func(slot int) bool { return slot >= a && slot < b }), api.OK
}

func wordedWith(m api.Mask, slot int) (api.Mask, api.Errno) {
	switch {
	case !wordedMask(m):
		return api.Mask{}, api.ErrMask
	case slot < 0, slot >= slots:
		return api.Mask{}, api.ErrArg
	}
	return of(func(n int) bool { return n == slot || wordedHas(m, n) }), api.OK
}

func wordedWithout(m api.Mask, slot int) (api.Mask, api.Errno) {
	switch {
	case !wordedMask(m):
		return api.Mask{}, api.ErrMask
	case slot < 0, slot >= slots:
		return api.Mask{}, api.ErrArg
	}
	return of(func(n int) bool { return n != slot && wordedHas(m, n) }), api.OK
}

func wordedAnd(l ...api.Mask) api.Mask {
	return of(func(slot int) bool {
		for _, m := range l {
			if !wordedHas(m, slot) {
				return false
			}
		}
		return true
	})
}

func wordedOr(l ...api.Mask) api.Mask {
	return of(func(slot int) bool {
		for _, m := range l {
			if wordedHas(m, slot) {
				return true
			}
		}
		return false
	})
}

func wordedMinus(a, b api.Mask) api.Mask {
	return of(func(slot int) bool { return wordedHas(a, slot) && !wordedHas(b, slot) })
}

func wordedNot(m api.Mask) api.Mask {
	return of(func(slot int) bool { return !wordedHas(m, slot) })
}

func wordedNext(m api.Mask, from int) (int, bool) {
	for _, slot := range wordedSlots(m) {
		if slot >= from {
			return slot, true
		}
	}
	return 0, false
}

func wordedPlace(m api.Mask, slot int) int {
	place := 0
	for _, n := range wordedSlots(m) {
		if n < slot {
			place++
		}
	}
	return place
}

// edgeSlots are the first and the last ones, and those around the places where words, and halves of them, end.
func edgeSlots() []int {
	return []int{0, 1, 2, 7, 8, 30, 31, 32, 33, 62, 63, 64, 65, 66, 94, 95}
}

// noSlots are no slots, and of some of them the lower bits would be one.
func noSlots() []int {
	return []int{
		math.MinInt, math.MinInt + 1, math.MinInt + 64, math.MinInt32 - 1, math.MinInt32, -128, -97, -96, -95, -65, -64, -63, -32, -2, -1,
		96, 97, 98, 127, 128, 129, 160, 191, 192, 255, 256, 257, 1 << 16, math.MaxInt32, math.MaxInt32 + 1, 1 << 32, 1<<32 + 5, 1 << 62, math.MaxInt - 63, math.MaxInt - 1, math.MaxInt,
	}
}

// numbers are all slots, and what is none.
func numbers() []int {
	l := noSlots()
	for slot := range slots {
		l = append(l, slot)
	}
	return l
}

// goodMasks are masks that may be: of no slot and of all, of one and of all but one, of runs and of every so many slots.
func goodMasks() []api.Mask {
	all := of(func(int) bool { return true })
	l := []api.Mask{{}, all, {math.MaxUint64, 0}, {0, math.MaxUint32}, laid(0, 3, 64), laid(3, 70), laid(62, 63, 64, 65), laid(0, 31, 32, 63, 64, 95)}
	for _, edge := range edgeSlots() {
		l = append(l, laid(edge),
			of(func(slot int) bool { return slot != edge }),
			of(func(slot int) bool { return slot < edge }),
			of(func(slot int) bool { return slot > edge }))
	}
	for step := 2; step <= 11; step++ {
		l = append(l, of(func(slot int) bool { return slot%step == step/2 }), of(func(slot int) bool { return slot%step != 0 }))
	}
	return append(l, of(func(slot int) bool { return slot*slot%7 < 3 }), of(func(slot int) bool { return slot*37%11 < 2 }))
}

// others are what the second word has besides slots: one bit, several, all of them.
func others() []uint64 {
	l := []uint64{1<<32 | 1<<63, 1<<33 | 1<<48, math.MaxUint64 - math.MaxUint32}
	for n := 32; n < 64; n++ {
		l = append(l, power(n))
	}
	return l
}

// badMasks are masks that may not be: ones that may, with each of the other bits besides.
func badMasks() []api.Mask {
	var l []api.Mask
	for _, m := range goodMasks() {
		for _, bits := range others() {
			l = append(l, api.Mask{m[0], m[1] + bits})
		}
	}
	return append(l, api.Mask{math.MaxUint64, math.MaxUint64})
}

// fewMasks are some of both kinds, to be held against one another.
func fewMasks() []api.Mask {
	l := goodMasks()
	for i, m := range badMasks() {
		if i%29 == 0 {
			l = append(l, m)
		}
	}
	return append(l, api.Mask{math.MaxUint64, math.MaxUint64}, api.Mask{0, math.MaxUint64 - math.MaxUint32})
}

// comes holds a mask that is answered, and the error, against what has to come of a call.
func comes(t *testing.T, got api.Mask, err api.Errno, want api.Mask, wantErr api.Errno, call ...any) {
	t.Helper()
	if got != want || err != wantErr {
		t.Errorf("%v: %x, %d, not %x, %d", call, got, err, want, wantErr)
	}
}
