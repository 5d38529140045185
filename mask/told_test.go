package mask

import (
	"math"
	"slices"
	"testing"

	"quiver/api"
)

// P10.4: a mask of which all is written out: the slots 0, 3, 63, 64, 70 and 95, with other bits and without.
func TestToldWritten(t *testing.T) {
	for _, m := range []api.Mask{{1<<63 + 9, 1<<31 + 65}, {1<<63 + 9, 1<<63 + 1<<32 + 1<<31 + 65}} {
		if n := Count(m); n != 6 {
			t.Errorf("Count: %d", n)
		}
		if l := Slots(m); !slices.Equal(l, []int{0, 3, 63, 64, 70, 95}) {
			t.Errorf("Slots: %v", l)
		}
		for _, c := range []struct {
			slot  int
			has   bool
			next  int
			ok    bool
			place int
		}{
			{math.MinInt, false, 0, true, 0},
			{-64, false, 0, true, 0},
			{-1, false, 0, true, 0},
			{0, true, 0, true, 0},
			{1, false, 3, true, 1},
			{3, true, 3, true, 1},
			{4, false, 63, true, 2},
			{62, false, 63, true, 2},
			{63, true, 63, true, 2},
			{64, true, 64, true, 3},
			{65, false, 70, true, 4},
			{67, false, 70, true, 4},
			{70, true, 70, true, 4},
			{71, false, 95, true, 5},
			{94, false, 95, true, 5},
			{95, true, 95, true, 5},
			{96, false, 0, false, 6},
			{97, false, 0, false, 6},
			{127, false, 0, false, 6},
			{128, false, 0, false, 6},
			{131, false, 0, false, 6},
			{math.MaxInt, false, 0, false, 6},
		} {
			tells(t, m, c.slot, c.has, c.next, c.ok, c.place)
		}
	}
}

// tells holds what is told of a mask at a number.
func tells(t *testing.T, m api.Mask, slot int, has bool, next int, ok bool, place int) {
	t.Helper()
	if got := Has(m, slot); got != has {
		t.Errorf("Has(%x, %d): %v", m, slot, got)
	}
	if n, found := Next(m, slot); n != next || found != ok {
		t.Errorf("Next(%x, %d): %d, %v, not %d, %v", m, slot, n, found, next, ok)
	}
	if n := Place(m, slot); n != place {
		t.Errorf("Place(%x, %d): %d, not %d", m, slot, n, place)
	}
}

// P10.4: the masks of no slot and of all, with other bits and without, at all numbers.
func TestToldOfNoneAndAll(t *testing.T) {
	for _, bits := range append(others(), 0) {
		none, all := api.Mask{0, bits}, api.Mask{math.MaxUint64, math.MaxUint32 + bits}
		if n := Count(none); n != 0 {
			t.Errorf("Count(%x): %d", none, n)
		}
		if n := Count(all); n != 96 {
			t.Errorf("Count(%x): %d", all, n)
		}
		if l := Slots(none); len(l) != 0 {
			t.Errorf("Slots(%x): %v", none, l)
		}
		l := Slots(all)
		if len(l) != 96 {
			t.Fatalf("Slots(%x): %v", all, l)
		}
		for i, slot := range l {
			if i != slot {
				t.Errorf("Slots(%x): %d at %d", all, slot, i)
			}
		}
		for slot := range slots {
			tells(t, none, slot, false, 0, false, 0)
			tells(t, all, slot, true, slot, true, slot)
		}
		for _, n := range noSlots() {
			tells(t, none, n, false, 0, false, 0)
			if n < 0 {
				tells(t, all, n, false, 0, true, 0)
			} else {
				tells(t, all, n, false, 0, false, 96)
			}
		}
	}
}

// P10.4: masks of all kinds at all numbers, as the chapter words it.
func TestToldWorded(t *testing.T) {
	for _, m := range fewMasks() {
		for _, slot := range numbers() {
			next, ok := wordedNext(m, slot)
			tells(t, m, slot, wordedHas(m, slot), next, ok, wordedPlace(m, slot))
		}
	}
	for _, m := range append(fewMasks(), badMasks()...) {
		want := wordedSlots(m)
		if l := Slots(m); !slices.Equal(l, want) || Count(m) != len(want) {
			t.Errorf("%x: %v, %d, not %v", m, l, Count(m), want)
		}
	}
}

// P10.4: slots may be left early, and gone through again (R6).
func TestAllLeftEarly(t *testing.T) {
	m := api.Mask{9, 1}
	it := all(m)
	for slot := range it {
		if slot == 3 {
			break
		}
	}
	if l := slices.Collect(it); !slices.Equal(l, []int{0, 3, 64}) {
		t.Errorf("%v", l)
	}
}
