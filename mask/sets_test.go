package mask

import (
	"math"
	"testing"

	"quiver/api"
)

// is holds a mask that is answered against what has to come of a call; it may be, whatever was handed in.
func is(t *testing.T, got, want api.Mask, call ...any) {
	t.Helper()
	comes(t, got, Check(got), want, api.OK, call...)
}

// P10.3: And and Or, written out: of none, of one, of several, of the same one twice, of masks that may not be.
func TestAndOr(t *testing.T) {
	all := api.Mask{math.MaxUint64, math.MaxUint32}
	whole := api.Mask{math.MaxUint64, math.MaxUint64}
	other := api.Mask{0, math.MaxUint64 - math.MaxUint32}
	for _, c := range []struct {
		l       []api.Mask
		and, or api.Mask
	}{
		{nil, all, api.Mask{}},
		{[]api.Mask{}, all, api.Mask{}},
		{[]api.Mask{{}}, api.Mask{}, api.Mask{}},
		{[]api.Mask{all}, all, all},
		{[]api.Mask{{9, 1}}, api.Mask{9, 1}, api.Mask{9, 1}},
		{[]api.Mask{{9, 1}, {9, 1}}, api.Mask{9, 1}, api.Mask{9, 1}},
		{[]api.Mask{{9, 1}, {3, 5}}, api.Mask{1, 1}, api.Mask{11, 5}},
		{[]api.Mask{{3, 5}, {9, 1}}, api.Mask{1, 1}, api.Mask{11, 5}},
		{[]api.Mask{{9, 1}, {6, 2}}, api.Mask{}, api.Mask{15, 3}},
		{[]api.Mask{{7, 7}, {6, 3}, {12, 10}}, api.Mask{4, 2}, api.Mask{15, 15}},
		{[]api.Mask{{1, 0}, {0, 1}}, api.Mask{}, api.Mask{1, 1}},
		{[]api.Mask{{1 << 63, 1 << 31}, {1 << 63, 1 << 31}}, api.Mask{1 << 63, 1 << 31}, api.Mask{1 << 63, 1 << 31}},
		{[]api.Mask{all, {9, 1}}, api.Mask{9, 1}, all},
		{[]api.Mask{{}, {9, 1}}, api.Mask{}, api.Mask{9, 1}},
		{[]api.Mask{whole}, all, all},
		{[]api.Mask{whole, whole}, all, all},
		{[]api.Mask{other}, api.Mask{}, api.Mask{}},
		{[]api.Mask{other, other}, api.Mask{}, api.Mask{}},
		{[]api.Mask{whole, other}, api.Mask{}, all},
		{[]api.Mask{{9, 1<<32 + 1}, {3, 1<<32 + 5}}, api.Mask{1, 1}, api.Mask{11, 5}},
		{[]api.Mask{{9, 1<<63 + 1}, {3, 5}}, api.Mask{1, 1}, api.Mask{11, 5}},
	} {
		is(t, And(c.l...), c.and, "And", c.l)
		is(t, Or(c.l...), c.or, "Or", c.l)
	}
	is(t, And(), all, "And")
	is(t, Or(), api.Mask{}, "Or")
}

// P10.3: And and Or of one, two and three masks of all kinds, and of all of them, as the chapter words it.
func TestAndOrWorded(t *testing.T) {
	both := func(l ...api.Mask) {
		is(t, And(l...), wordedAnd(l...), "And", l)
		is(t, Or(l...), wordedOr(l...), "Or", l)
	}
	l := fewMasks()
	for i, a := range l {
		both(a)
		both(a, a)
		for j, b := range l {
			both(a, b)
			both(b, l[i*j%len(l)], a)
		}
		both(l[i:]...)
		both(l[:i]...)
	}
	for _, m := range badMasks() {
		both(m)
	}
}

// P10.3: Minus and Not, written out: of itself, of nothing, of all, of masks that may not be.
func TestMinusNot(t *testing.T) {
	all := api.Mask{math.MaxUint64, math.MaxUint32}
	whole := api.Mask{math.MaxUint64, math.MaxUint64}
	other := api.Mask{0, math.MaxUint64 - math.MaxUint32}
	for _, c := range []struct{ a, b, minus api.Mask }{
		{api.Mask{9, 1}, api.Mask{9, 1}, api.Mask{}},
		{api.Mask{9, 1}, api.Mask{}, api.Mask{9, 1}},
		{api.Mask{}, api.Mask{9, 1}, api.Mask{}},
		{api.Mask{9, 1}, all, api.Mask{}},
		{all, api.Mask{}, all},
		{all, all, api.Mask{}},
		{all, api.Mask{9, 1}, api.Mask{math.MaxUint64 - 9, math.MaxUint32 - 1}},
		{api.Mask{9, 5}, api.Mask{3, 1}, api.Mask{8, 4}},
		{whole, api.Mask{}, all},
		{whole, all, api.Mask{}},
		{all, whole, api.Mask{}},
		{all, other, all},
		{other, api.Mask{}, api.Mask{}},
		{api.Mask{9, 1<<40 + 5}, api.Mask{3, 1}, api.Mask{8, 4}},
	} {
		is(t, Minus(c.a, c.b), c.minus, "Minus", c.a, c.b)
	}
	for _, c := range []struct{ m, not api.Mask }{
		{api.Mask{}, all},
		{all, api.Mask{}},
		{api.Mask{9, 1}, api.Mask{math.MaxUint64 - 9, math.MaxUint32 - 1}},
		{api.Mask{math.MaxUint64, 0}, api.Mask{0, math.MaxUint32}},
		{whole, api.Mask{}},
		{other, all},
		{api.Mask{9, 1<<32 + 1}, api.Mask{math.MaxUint64 - 9, math.MaxUint32 - 1}},
	} {
		is(t, Not(c.m), c.not, "Not", c.m)
	}
}

// P10.3: Minus of any two masks of all kinds, and Not of each, and of that again, as the chapter words it.
func TestMinusNotWorded(t *testing.T) {
	l := fewMasks()
	for _, a := range l {
		for _, b := range l {
			is(t, Minus(a, b), wordedMinus(a, b), "Minus", a, b)
		}
	}
	for _, m := range append(l, badMasks()...) {
		is(t, Not(m), wordedNot(m), "Not", m)
		is(t, Not(Not(m)), wordedNot(wordedNot(m)), "Not of Not", m)
		is(t, Minus(m, m), api.Mask{}, "Minus of itself", m)
	}
}
