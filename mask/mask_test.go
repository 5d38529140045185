package mask

import (
	"math"
	"testing"

	"quiver/api"
)

// checks holds what Check answers of a mask.
func checks(t *testing.T, m api.Mask, want api.Errno) {
	t.Helper()
	if err := Check(m); err != want {
		t.Errorf("Check(%x): %d, not %d", m, err, want)
	}
}

// P10.1: masks at the edges, written out.
func TestCheck(t *testing.T) {
	for _, c := range []struct {
		m    api.Mask
		want api.Errno
	}{
		{api.Mask{}, api.OK},
		{api.Mask{1, 0}, api.OK},
		{api.Mask{1 << 31, 0}, api.OK},
		{api.Mask{1 << 32, 0}, api.OK},
		{api.Mask{1 << 63, 0}, api.OK},
		{api.Mask{math.MaxUint64, 0}, api.OK},
		{api.Mask{0, 1}, api.OK},
		{api.Mask{0, 1 << 31}, api.OK},
		{api.Mask{math.MaxUint64, math.MaxUint32}, api.OK},
		{api.Mask{0, 1 << 32}, api.ErrMask},
		{api.Mask{0, 1 << 33}, api.ErrMask},
		{api.Mask{0, 1 << 63}, api.ErrMask},
		{api.Mask{0, 1<<32 + 1}, api.ErrMask},
		{api.Mask{1 << 32, 1 << 32}, api.ErrMask},
		{api.Mask{0, math.MaxUint64 - math.MaxUint32}, api.ErrMask},
		{api.Mask{math.MaxUint64, math.MaxUint64}, api.ErrMask},
	} {
		checks(t, c.m, c.want)
	}
}

// P10.1: masks of all kinds, as the chapter words it, and each bit alone.
func TestCheckWorded(t *testing.T) {
	for _, m := range goodMasks() {
		if !wordedMask(m) {
			t.Fatalf("%x", m)
		}
		checks(t, m, api.OK)
	}
	for _, m := range badMasks() {
		if wordedMask(m) {
			t.Fatalf("%x", m)
		}
		checks(t, m, api.ErrMask)
	}
	for n := range 128 {
		var m api.Mask
		m[n/64] = power(n % 64)
		want := api.OK
		if n >= 96 {
			want = api.ErrMask
		}
		checks(t, m, want)
	}
}

// P10.2: the words of the masks of slots, written out: none, one there twice, slots in any order.
func TestOf(t *testing.T) {
	for _, c := range []struct {
		l    []int
		want api.Mask
	}{
		{nil, api.Mask{}},
		{[]int{}, api.Mask{}},
		{[]int{0}, api.Mask{1, 0}},
		{[]int{31}, api.Mask{1 << 31, 0}},
		{[]int{32}, api.Mask{1 << 32, 0}},
		{[]int{63}, api.Mask{1 << 63, 0}},
		{[]int{64}, api.Mask{0, 1}},
		{[]int{95}, api.Mask{0, 1 << 31}},
		{[]int{0, 64, 3}, api.Mask{9, 1}},
		{[]int{64, 3, 0}, api.Mask{9, 1}},
		{[]int{3, 0, 64, 0, 3, 64}, api.Mask{9, 1}},
		{[]int{5, 5}, api.Mask{32, 0}},
		{[]int{70, 70, 70}, api.Mask{0, 64}},
		{[]int{95, 0}, api.Mask{1, 1 << 31}},
	} {
		got, err := Of(c.l...)
		comes(t, got, err, c.want, api.OK, "Of", c.l)
	}
	got, err := Of()
	comes(t, got, err, api.Mask{}, api.OK, "Of")
}

// P10.2: one of the list is no slot: alone, first, last, between, and twice.
func TestOfNone(t *testing.T) {
	for _, n := range noSlots() {
		for _, l := range [][]int{{n}, {n, 0}, {0, n}, {95, n, 64}, {n, n}, {3, 3, n, 3}, {n, -1}, {96, n}} {
			got, err := Of(l...)
			comes(t, got, err, api.Mask{}, api.ErrArg, "Of", l)
		}
	}
}

// P10.2: lists of one and two of all numbers, and long ones, as the chapter words it.
func TestOfWorded(t *testing.T) {
	of := func(l ...int) {
		want, wantErr := wordedOf(l...)
		got, err := Of(l...)
		comes(t, got, err, want, wantErr, "Of", l)
	}
	var rising, falling, often []int
	for slot := range slots {
		of(slot)
		for _, other := range numbers() {
			of(slot, other)
			of(other, slot)
		}
		rising, falling, often = append(rising, slot), append(falling, slots-1-slot), append(often, slot, slot*5%7, slot*5%96)
		of(rising...)
		of(falling...)
		of(often...)
	}
	of(append(rising, 96)...)
	of(append([]int{-1}, falling...)...)
	for _, m := range goodMasks() {
		of(wordedSlots(m)...)
	}
}

// P10.2: ranges at the edges, written out.
func TestRange(t *testing.T) {
	for _, c := range []struct {
		a, b    int
		want    api.Mask
		wantErr api.Errno
	}{
		{0, 0, api.Mask{}, api.OK},
		{5, 5, api.Mask{}, api.OK},
		{63, 63, api.Mask{}, api.OK},
		{64, 64, api.Mask{}, api.OK},
		{95, 95, api.Mask{}, api.OK},
		{96, 96, api.Mask{}, api.OK},
		{0, 1, api.Mask{1, 0}, api.OK},
		{0, 63, api.Mask{1<<63 - 1, 0}, api.OK},
		{0, 64, api.Mask{math.MaxUint64, 0}, api.OK},
		{0, 65, api.Mask{math.MaxUint64, 1}, api.OK},
		{0, 96, api.Mask{math.MaxUint64, math.MaxUint32}, api.OK},
		{62, 66, api.Mask{3 << 62, 3}, api.OK},
		{63, 64, api.Mask{1 << 63, 0}, api.OK},
		{64, 65, api.Mask{0, 1}, api.OK},
		{64, 96, api.Mask{0, math.MaxUint32}, api.OK},
		{95, 96, api.Mask{0, 1 << 31}, api.OK},
		{0, 97, api.Mask{}, api.ErrArg},
		{96, 97, api.Mask{}, api.ErrArg},
		{97, 97, api.Mask{}, api.ErrArg},
		{-1, 0, api.Mask{}, api.ErrArg},
		{-1, 96, api.Mask{}, api.ErrArg},
		{-1, -1, api.Mask{}, api.ErrArg},
		{1, 0, api.Mask{}, api.ErrArg},
		{64, 63, api.Mask{}, api.ErrArg},
		{96, 95, api.Mask{}, api.ErrArg},
		{0, -1, api.Mask{}, api.ErrArg},
		{math.MinInt, math.MaxInt, api.Mask{}, api.ErrArg},
		{math.MaxInt, math.MinInt, api.Mask{}, api.ErrArg},
		{math.MinInt, math.MinInt, api.Mask{}, api.ErrArg},
		{math.MaxInt, math.MaxInt, api.Mask{}, api.ErrArg},
	} {
		got, err := Range(c.a, c.b)
		comes(t, got, err, c.want, c.wantErr, "Range", c.a, c.b)
	}
}

// P10.2: ranges of all pairs of numbers, as the chapter words it.
func TestRangeWorded(t *testing.T) {
	for _, a := range numbers() {
		for _, b := range numbers() {
			want, wantErr := wordedRange(a, b)
			got, err := Range(a, b)
			comes(t, got, err, want, wantErr, "Range", a, b)
		}
	}
}

// P10.2: With and Without, written out: a slot that is there, one that is not, no slot, and a mask that may not be, which is ahead.
func TestWithAndWithout(t *testing.T) {
	m, bad := api.Mask{9, 1}, api.Mask{9, 1<<32 + 1}
	for _, c := range []struct {
		m             api.Mask
		slot          int
		with, without api.Mask
		err           api.Errno
	}{
		{m, 0, m, api.Mask{8, 1}, api.OK},
		{m, 1, api.Mask{11, 1}, m, api.OK},
		{m, 3, m, api.Mask{1, 1}, api.OK},
		{m, 63, api.Mask{1<<63 + 9, 1}, m, api.OK},
		{m, 64, m, api.Mask{9, 0}, api.OK},
		{m, 67, api.Mask{9, 9}, m, api.OK},
		{m, 95, api.Mask{9, 1<<31 + 1}, m, api.OK},
		{api.Mask{}, 0, api.Mask{1, 0}, api.Mask{}, api.OK},
		{api.Mask{}, 95, api.Mask{0, 1 << 31}, api.Mask{}, api.OK},
		{m, -1, api.Mask{}, api.Mask{}, api.ErrArg},
		{m, 96, api.Mask{}, api.Mask{}, api.ErrArg},
		{m, math.MinInt, api.Mask{}, api.Mask{}, api.ErrArg},
		{m, math.MaxInt, api.Mask{}, api.Mask{}, api.ErrArg},
		{bad, 0, api.Mask{}, api.Mask{}, api.ErrMask},
		{bad, 1, api.Mask{}, api.Mask{}, api.ErrMask},
		{bad, -1, api.Mask{}, api.Mask{}, api.ErrMask},
		{bad, 96, api.Mask{}, api.Mask{}, api.ErrMask},
		{api.Mask{math.MaxUint64, math.MaxUint64}, 97, api.Mask{}, api.Mask{}, api.ErrMask},
	} {
		with, err := With(c.m, c.slot)
		comes(t, with, err, c.with, c.err, "With", c.m, c.slot)
		without, err := Without(c.m, c.slot)
		comes(t, without, err, c.without, c.err, "Without", c.m, c.slot)
	}
}

// P10.2: With and Without of masks of all kinds and all numbers, as the chapter words it.
func TestWithAndWithoutWorded(t *testing.T) {
	for _, m := range append(fewMasks(), badMasks()...) {
		for _, slot := range append(noSlots(), edgeSlots()...) {
			want, wantErr := wordedWith(m, slot)
			got, err := With(m, slot)
			comes(t, got, err, want, wantErr, "With", m, slot)
			want, wantErr = wordedWithout(m, slot)
			got, err = Without(m, slot)
			comes(t, got, err, want, wantErr, "Without", m, slot)
		}
	}
	for _, m := range goodMasks() {
		for slot := range slots {
			want, _ := wordedWith(m, slot)
			got, err := With(m, slot)
			comes(t, got, err, want, api.OK, "With", m, slot)
			want, _ = wordedWithout(m, slot)
			got, err = Without(m, slot)
			comes(t, got, err, want, api.OK, "Without", m, slot)
		}
	}
}
