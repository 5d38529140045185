package vec

import (
	"math/big"
	"slices"
	"testing"

	"quiver/api"
)

// P5.4: a distance is the same both ways, and 0 just of the same vector.
func TestDistBothWays(t *testing.T) {
	for dim := 1; dim <= api.MaxDim; dim++ {
		for _, a := range good(dim) {
			for _, b := range good(dim) {
				there, err := Dist(a, b)
				back, err2 := Dist(b, a)
				if err != api.OK || err2 != api.OK || there != back {
					t.Errorf("%v and %v: %d there, %d back", a, b, there, back)
				}
				if (there == 0) != Same(a, b) {
					t.Errorf("%v and %v: %d", a, b, there)
				}
			}
			if d, err := Dist(a, a); d != 0 || err != api.OK {
				t.Errorf("%v and itself: %d, %d", a, d, err)
			}
		}
	}
}

// moved is v, moved by another one.
func moved(v, by []int32) []int32 {
	w := slices.Clone(v)
	for i := range w {
		w[i] += by[i]
	}
	return w
}

// P5.4: moved by the same vector, both are as far as they were, if what comes may be.
func TestDistOfMoved(t *testing.T) {
	count := 0
	for dim := 1; dim <= api.MaxDim; dim++ {
		for _, by := range append(good(dim), filled(dim, 1<<29), filled(dim, -1<<29)) {
			for _, a := range good(dim) {
				for _, b := range good(dim) {
					x, y := moved(a, by), moved(b, by)
					if Check(x) != api.OK || Check(y) != api.OK {
						continue
					}
					count++
					want, _ := Dist(a, b)
					far(t, x, y, new(big.Int).SetUint64(want))
				}
			}
		}
	}
	if count < 1000 {
		t.Errorf("just %d moves", count)
	}
}

// P5.4: pairs that are moved from one end to the other.
func TestDistOfMovedFar(t *testing.T) {
	for by := int32(0); by <= most; by += most / 3 {
		for _, sign := range []int32{1, -1} {
			for dim := 1; dim <= api.MaxDim; dim++ {
				far(t, filled(dim, sign*by), filled(dim, sign*(by-most)), worded(filled(dim, 0), filled(dim, most)))
			}
		}
	}
}

// P5.4: the mean may be, has their dimension, and is between the least and the greatest of each component.
func TestMeanIsBetween(t *testing.T) {
	for dim := 1; dim <= api.MaxDim; dim++ {
		l := good(dim)
		for i := range l {
			for j := i + 1; j <= len(l); j++ {
				some := l[i:j]
				mean, err := Mean(some)
				if err != api.OK || Of(mean, dim) != api.OK {
					t.Fatalf("Mean(%v): %v, %d", some, mean, err)
				}
				for k, component := range mean {
					column := make([]int32, 0, len(some))
					for _, v := range some {
						column = append(column, v[k])
					}
					if component < slices.Min(column) || component > slices.Max(column) {
						t.Errorf("Mean(%v): %v", some, mean)
					}
				}
			}
		}
	}
}

// P5.4: the mean hangs on no order of the vectors, and the distance from the nearest one neither.
func TestInAnotherOrder(t *testing.T) {
	for dim := 1; dim <= api.MaxDim; dim++ {
		l := good(dim)
		v := filled(dim, 2)
		mean, _ := Mean(l)
		place, _ := Nearest(l, v)
		least, _ := Dist(l[place], v)
		for turn := range l {
			turned := slices.Concat(l[turn:], l[:turn])
			for range 2 {
				means(t, turned, mean)
				place, err := Nearest(turned, v)
				if d, _ := Dist(turned[place], v); err != api.OK || d != least {
					t.Errorf("%v: place %d is as far as %d, not %d", turned, place, d, least)
				}
				slices.Reverse(turned)
			}
		}
	}
}

// P5.4: nobody is nearer than the nearest one, and nobody ahead of it is as near.
func TestNobodyIsNearer(t *testing.T) {
	for dim := 1; dim <= api.MaxDim; dim++ {
		l := append(good(dim), good(dim)...)
		for _, v := range good(dim) {
			place, err := Nearest(l, v)
			least, _ := Dist(l[place], v)
			if err != api.OK {
				t.Errorf("%v: %d", v, err)
			}
			for i, w := range l {
				if d, _ := Dist(w, v); d < least || d == least && i < place {
					t.Errorf("%v: place %d, but %d is as far as %d", v, place, i, d)
				}
			}
		}
	}
}

// P5.4: Compare is one order: the same just of the same hit, turned round the other way, and of three in each order one behind the other.
func TestCompareIsOneOrder(t *testing.T) {
	l := hits()
	for _, a := range l {
		for _, b := range l {
			x := Compare(a, b)
			if x != -Compare(b, a) || (x == 0) != (a == b) || x < -1 || x > 1 {
				t.Errorf("Compare(%v, %v): %d", a, b, x)
			}
			for _, c := range l {
				if x <= 0 && Compare(b, c) <= 0 && Compare(a, c) > 0 {
					t.Fatalf("%v, %v, %v", a, b, c)
				}
			}
		}
	}
}

// P5.4: hits put in order are by distance, then by number, in whatever order they come.
func TestComparePutsInOrder(t *testing.T) {
	var want []api.Hit
	for _, dist := range numbers() {
		for _, id := range numbers() {
			want = append(want, api.Hit{Id: id, Dist: dist})
		}
	}
	for step := range 3 {
		l := hits()
		for i := range l {
			j := (i*(2*step+1) + step) % len(l)
			l[i], l[j] = l[j], l[i]
		}
		slices.SortFunc(l, Compare)
		if !slices.Equal(l, want) {
			t.Errorf("in order: %v", l)
		}
	}
}

// P5.4, R5: the same arguments have the same answers, whatever was asked between.
func TestAskedAgain(t *testing.T) {
	for dim := 1; dim <= api.MaxDim; dim++ {
		l := good(dim)
		for _, v := range l {
			place, err := Nearest(l, v)
			mean, err2 := Mean(l)
			Nearest(bad(), v)
			Mean(bad())
			Mean(good(api.MaxDim + 1 - dim))
			Dist(v, nil)
			if err != api.OK || err2 != api.OK {
				t.Errorf("%v: %d, %d", v, err, err2)
			}
			near(t, l, v, place)
			means(t, l, mean)
		}
	}
}
