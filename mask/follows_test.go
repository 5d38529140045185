package mask

import (
	"math"
	"slices"
	"testing"

	"quiver/api"
)

// P10.2, P10.3, P10.4: the chapter's examples.
func TestExamples(t *testing.T) {
	m, err := Of(0, 64, 3)
	comes(t, m, err, api.Mask{9, 1}, api.OK, "Of(0, 64, 3)")
	if l := Slots(m); !slices.Equal(l, []int{0, 3, 64}) || Count(m) != 3 {
		t.Errorf("%v, %d", l, Count(m))
	}
	m, err = Range(62, 66)
	if l := Slots(m); !slices.Equal(l, []int{62, 63, 64, 65}) || err != api.OK {
		t.Errorf("%v, %d", l, err)
	}
	m, err = Range(5, 5)
	comes(t, m, err, api.Mask{}, api.OK, "Range(5, 5)")
	m, err = Range(0, 97)
	comes(t, m, err, api.Mask{}, api.ErrArg, "Range(0, 97)")
	m, err = Of(3, 70)
	tells(t, m, 4, false, 70, true, 1)
	tells(t, m, 71, false, 0, false, 2)
	tells(t, m, 70, true, 70, true, 1)
	if n := Count(Not(api.Mask{})); n != 96 || err != api.OK {
		t.Errorf("%d, %d", n, err)
	}
	m, err = Of(96)
	comes(t, m, err, api.Mask{}, api.ErrArg, "Of(96)")
	is(t, And(), Not(Or()), "And()")
	is(t, Or(), api.Mask{}, "Or()")
}

// P10.5: And, Or and Not are what they are of sets, slot by slot; Minus is the And with a Not.
func TestSetsFollow(t *testing.T) {
	l := fewMasks()
	for i, a := range l {
		for j, b := range l {
			c := l[i*j%len(l)]
			is(t, Not(Or(a, b)), And(Not(a), Not(b)), "Not of Or", a, b)
			is(t, Not(And(a, b)), Or(Not(a), Not(b)), "Not of And", a, b)
			is(t, Minus(a, b), And(a, Not(b)), "Minus", a, b)
			is(t, And(a, b), And(b, a), "And", a, b)
			is(t, Or(a, b), Or(b, a), "Or", a, b)
			is(t, And(a, b, c), And(And(a, b), c), "And", a, b, c)
			is(t, Or(a, b, c), Or(Or(a, b), c), "Or", a, b, c)
			is(t, And(a, Or(b, c)), Or(And(a, b), And(a, c)), "And of Or", a, b, c)
			is(t, Or(Minus(a, b), And(a, b)), Or(a), "parted", a, b)
			if Count(Or(a, b))+Count(And(a, b)) != Count(a)+Count(b) {
				t.Errorf("Count of %x and %x", a, b)
			}
		}
		for slot := range slots {
			if Has(Not(a), slot) == Has(a, slot) {
				t.Errorf("Not(%x) at %d", a, slot)
			}
		}
	}
}

// P10.5: slots of Of are these, rising, each once; With and Without are the Or and the Minus of one.
func TestSlotsOfOf(t *testing.T) {
	seed := uint64(7)
	for range 300 {
		var l []int
		for range seed >> 33 % 120 {
			seed = seed*6364136223846793005 + 1442695040888963407
			l = append(l, int(seed>>33%96))
		}
		seed = seed*6364136223846793005 + 1442695040888963407
		m, err := Of(l...)
		sorted := slices.Sorted(slices.Values(l))
		if got := Slots(m); err != api.OK || !slices.Equal(got, slices.Compact(sorted)) {
			t.Errorf("Of(%v): %v, %d", l, got, err)
		}
		again, err := Of(Slots(m)...)
		comes(t, again, err, m, api.OK, "Of of Slots", l)
		step := api.Mask{}
		for _, slot := range l {
			step, err = With(step, slot)
			if err != api.OK {
				t.Fatal(err)
			}
		}
		is(t, step, m, "With, one by one", l)
		for _, slot := range Slots(m) {
			step, err = Without(step, slot)
			if err != api.OK || Has(step, slot) {
				t.Fatalf("Without(%d): %d", slot, err)
			}
		}
		is(t, step, api.Mask{}, "Without, one by one", l)
	}
}

// P10.5: the slot at the place i of Slots has the Place i; from 0 on Next, again and again behind what it told, tells Slots.
func TestPlacesAndNext(t *testing.T) {
	for _, m := range append(fewMasks(), badMasks()...) {
		l := Slots(m)
		for i, slot := range l {
			if Place(m, slot) != i || Place(m, slot+1) != i+1 || !Has(m, slot) {
				t.Errorf("%x: %d is at %d, not %d", m, slot, Place(m, slot), i)
			}
		}
		var told []int
		for slot, ok := Next(m, 0); ok && len(told) < 200; slot, ok = Next(m, slot+1) {
			told = append(told, slot)
		}
		if !slices.Equal(told, l) {
			t.Errorf("%x: Next tells %v, Slots %v", m, told, l)
		}
		if Count(m) != len(l) || Place(m, slots) != len(l) {
			t.Errorf("%x: Count %d, Place %d, Slots %v", m, Count(m), Place(m, slots), l)
		}
	}
}

// P10.2, P10.3: lists that are handed in are not changed, and not the room behind their ends (R3).
func TestListsStay(t *testing.T) {
	for _, l := range [][]int{{64, 3, 0, 3}, {64, -1, 3}, {}} {
		room := append(slices.Clone(l), 11, 22, 33)
		was := slices.Clone(room)
		Of(room[:len(l)]...)
		if !slices.Equal(room, was) {
			t.Errorf("Of: %v, it was %v", room, was)
		}
	}
	room := []api.Mask{{9, 1}, {3, math.MaxUint64}, {5, 5}, {7, 7}}
	was := slices.Clone(room)
	And(room[:2]...)
	Or(room[:3]...)
	if !slices.Equal(room, was) {
		t.Errorf("%v, it was %v", room, was)
	}
}

// P10.4: what is handed out is not kept: it may be wiped (R3), and the same is told again (R5).
func TestSlotsAreNew(t *testing.T) {
	for _, m := range goodMasks() {
		a, b := Slots(m), Slots(m)
		want := slices.Clone(b)
		for i := range a {
			a[i] = -7
		}
		_ = append(a, -8)
		if !slices.Equal(b, want) || !slices.Equal(Slots(m), want) {
			t.Errorf("%x: %v, %v, not %v", m, b, Slots(m), want)
		}
	}
}
