package codec

import (
	"math"
	"slices"
	"testing"

	"quiver/api"
)

const (
	most  = api.MaxComp
	least = -api.MaxComp
)

// filled is a vector of n components, all the same.
func filled(n int, component int32) []int32 {
	return slices.Repeat([]int32{component}, n)
}

// with is v, with another component at a place.
func with(v []int32, place int, component int32) []int32 {
	w := slices.Clone(v)
	w[place] = component
	return w
}

// goodVecs are vectors that may be: of each dimension, with the utmost components at each place, and with bytes that all differ.
func goodVecs() [][]int32 {
	var l [][]int32
	for dim := 1; dim <= api.MaxDim; dim++ {
		for _, component := range []int32{0, 1, -1, 255, 256, -256, most, least} {
			l = append(l, filled(dim, component))
		}
		l = append(l, []int32{most, least, most - 1, least + 1}[:dim], []int32{0x01020304, -0x01020304, 7, -8}[:dim])
		for place := range dim {
			l = append(l, with(filled(dim, 3), place, most), with(filled(dim, -3), place, least))
		}
	}
	return l
}

// badVecs are vectors that may not be: of no components or of too many (of some the lowest byte of how many they are may be), and with one beyond the bounds at each place.
func badVecs() [][]int32 {
	l := [][]int32{nil, {}}
	for _, n := range []int{api.MaxDim + 1, api.MaxDim + 2, 128, 255, 256, 257, 260} {
		l = append(l, filled(n, 0), filled(n, -1), filled(n, most))
	}
	for dim := 1; dim <= api.MaxDim; dim++ {
		for place := range dim {
			for _, component := range []int32{most + 1, least - 1, math.MaxInt32, math.MinInt32} {
				l = append(l, with(filled(dim, 0), place, component))
			}
		}
	}
	return l
}

// ids are the least and the greatest ones, and some between.
func ids() []uint64 {
	return []uint64{0, 1, 255, 258, 1 << 40, 1<<63 - 1, 1 << 63, 0x0102030405060708, math.MaxUint64 - 1, math.MaxUint64}
}

func rowsOf(vecs [][]int32) []api.Row {
	var l []api.Row
	for _, v := range vecs {
		for _, id := range ids() {
			l = append(l, api.Row{Id: id, Vec: v})
		}
	}
	return l
}

// span is a Begin and an End.
type span struct{ begin, end uint64 }

// mayBe is what the chapter says of Begin and End.
func (s span) mayBe() bool {
	begins := s.begin >= 1 && s.begin <= 1<<40
	ends := s.end == 0 || s.end > s.begin && s.end <= 1<<40
	return begins && ends
}

// spans are those of each Begin at the edges, with each End at the edges, and around that Begin.
func spans() (good, bad []span) {
	edges := []uint64{0, 1, 2, 3, 255, 256, 0x0102030405, 1<<40 - 2, 1<<40 - 1, 1 << 40, 1<<40 + 1, 1<<40 + 5, 1 << 41, 1 << 63, math.MaxUint64 - 1, math.MaxUint64}
	for _, begin := range edges {
		for _, end := range append([]uint64{begin - 1, begin, begin + 1}, edges...) {
			if s := (span{begin, end}); s.mayBe() {
				good = append(good, s)
			} else {
				bad = append(bad, s)
			}
		}
	}
	return good, bad
}

func versionsOf(spans []span, vecs [][]int32) []api.Version {
	var l []api.Version
	for _, s := range spans {
		for _, v := range vecs {
			l = append(l, api.Version{Begin: s.begin, End: s.end, Vec: v})
		}
	}
	return l
}

func goodRows() []api.Row {
	return rowsOf(goodVecs())
}

func badRows() []api.Row {
	return rowsOf(badVecs())
}

func goodVersions() []api.Version {
	good, _ := spans()
	return versionsOf(good, goodVecs())
}

// badVersions are those with a Begin or an End that may not be, with a Vec that may not be, and with both.
func badVersions() []api.Version {
	good, bad := spans()
	return slices.Concat(versionsOf(bad, goodVecs()), versionsOf(good, badVecs()), versionsOf(bad, badVecs()))
}

// P7.1: rows and versions that may be.
func TestCheckGood(t *testing.T) {
	for _, r := range goodRows() {
		if err := CheckRow(r); err != api.OK {
			t.Errorf("CheckRow(%v): %d", r, err)
		}
	}
	for _, v := range goodVersions() {
		if err := CheckVersion(v); err != api.OK {
			t.Errorf("CheckVersion(%v): %d", v, err)
		}
	}
}

// P7.1: rows and versions that may not be.
func TestCheckBad(t *testing.T) {
	for _, r := range badRows() {
		if err := CheckRow(r); err != api.ErrRow {
			t.Errorf("CheckRow(%v): %d", r, err)
		}
	}
	for _, v := range badVersions() {
		if err := CheckVersion(v); err != api.ErrVersion {
			t.Errorf("CheckVersion(%v): %d", v, err)
		}
	}
}

// P7.1: rows at the edges, written out.
func TestCheckRowEdges(t *testing.T) {
	for _, c := range []struct {
		r    api.Row
		want api.Errno
	}{
		{api.Row{}, api.ErrRow},
		{api.Row{Id: math.MaxUint64}, api.ErrRow},
		{api.Row{Vec: []int32{}}, api.ErrRow},
		{api.Row{Vec: []int32{0}}, api.OK},
		{api.Row{Id: math.MaxUint64, Vec: []int32{0}}, api.OK},
		{api.Row{Id: 7, Vec: []int32{1, 2, 3, 4}}, api.OK},
		{api.Row{Id: 7, Vec: []int32{1, 2, 3, 4, 5}}, api.ErrRow},
		{api.Row{Id: 7, Vec: []int32{1073741823}}, api.OK},
		{api.Row{Id: 7, Vec: []int32{1073741824}}, api.ErrRow},
		{api.Row{Id: 7, Vec: []int32{-1073741823}}, api.OK},
		{api.Row{Id: 7, Vec: []int32{-1073741824}}, api.ErrRow},
	} {
		if err := CheckRow(c.r); err != c.want {
			t.Errorf("CheckRow(%v): %d, not %d", c.r, err, c.want)
		}
	}
}

// P7.1: versions at the edges, written out; the chapter's example among them.
func TestCheckVersionEdges(t *testing.T) {
	const last = 1099511627776
	for _, c := range []struct {
		begin, end uint64
		want       api.Errno
	}{
		{3, 3, api.ErrVersion},
		{0, 0, api.ErrVersion}, {0, 1, api.ErrVersion}, {0, last, api.ErrVersion}, {0, math.MaxUint64, api.ErrVersion},
		{1, 0, api.OK}, {1, 1, api.ErrVersion}, {1, 2, api.OK}, {1, last, api.OK}, {1, last + 1, api.ErrVersion},
		{7, 0, api.OK}, {7, 6, api.ErrVersion}, {7, 7, api.ErrVersion}, {7, 8, api.OK}, {7, last, api.OK}, {7, last + 1, api.ErrVersion}, {7, math.MaxUint64, api.ErrVersion},
		{last - 1, 0, api.OK}, {last - 1, last - 2, api.ErrVersion}, {last - 1, last - 1, api.ErrVersion}, {last - 1, last, api.OK}, {last - 1, last + 1, api.ErrVersion},
		{last, 0, api.OK}, {last, last - 1, api.ErrVersion}, {last, last, api.ErrVersion}, {last, last + 1, api.ErrVersion},
		{last + 1, 0, api.ErrVersion}, {last + 1, last, api.ErrVersion}, {last + 1, last + 1, api.ErrVersion}, {last + 1, last + 2, api.ErrVersion},
		{math.MaxUint64, 0, api.ErrVersion}, {math.MaxUint64, math.MaxUint64, api.ErrVersion},
	} {
		v := api.Version{Begin: c.begin, End: c.end, Vec: []int32{1}}
		if err := CheckVersion(v); err != c.want {
			t.Errorf("CheckVersion(%v): %d, not %d", v, err, c.want)
		}
		for _, bad := range badVecs() {
			v.Vec = bad
			if err := CheckVersion(v); err != api.ErrVersion {
				t.Errorf("CheckVersion(%v): %d", v, err)
			}
		}
	}
}

// someVecs are unlike each other, but for the first two: nil and none are the same. Some begin as others do.
func someVecs() [][]int32 {
	return [][]int32{nil, {}, {0}, {1}, {-1}, {0, 0}, {1, 0}, {0, 1}, {1, 2, 3, 4}, {1, 2, 3, 5}, {0, 2, 3, 4}, {1, 2, 3}, {1, 2, 3, 4, 5}, {math.MinInt32}, {math.MaxInt32}}
}

// P7.1: each of many against each: those that differ in one field, in one component, in how many components there are; those that may not be too.
func TestSameAsWorded(t *testing.T) {
	numbers := []uint64{0, 1, 2, 1 << 32, 1<<32 + 1, 1 << 40, math.MaxUint64}
	for i, a := range someVecs() {
		for j, b := range someVecs() {
			vecs := i == j || i+j == 1
			for _, x := range numbers {
				for _, y := range numbers {
					if got := SameRow(api.Row{Id: x, Vec: a}, api.Row{Id: y, Vec: b}); got != (vecs && x == y) {
						t.Errorf("SameRow(%d %v, %d %v): %v", x, a, y, b, got)
					}
					for _, z := range numbers {
						v, other := api.Version{Begin: x, End: y, Vec: a}, api.Version{Begin: z, End: y, Vec: b}
						if got := SameVersion(v, other); got != (vecs && x == z) {
							t.Errorf("SameVersion(%v, %v): %v", v, other, got)
						}
						other = api.Version{Begin: x, End: z, Vec: b}
						if got := SameVersion(v, other); got != (vecs && y == z) {
							t.Errorf("SameVersion(%v, %v): %v", v, other, got)
						}
					}
				}
			}
		}
	}
}

// P7.1: ones that differ, written out.
func TestSameEdges(t *testing.T) {
	r := api.Row{Id: 5, Vec: []int32{1, 2}}
	for _, c := range []struct {
		b    api.Row
		want bool
	}{
		{api.Row{Id: 5, Vec: []int32{1, 2}}, true},
		{api.Row{Id: 6, Vec: []int32{1, 2}}, false},
		{api.Row{Id: 5, Vec: []int32{1, 3}}, false},
		{api.Row{Id: 5, Vec: []int32{2, 1}}, false},
		{api.Row{Id: 5, Vec: []int32{1}}, false},
		{api.Row{Id: 5, Vec: []int32{1, 2, 0}}, false},
		{api.Row{Id: 5}, false},
		{api.Row{}, false},
	} {
		if SameRow(r, c.b) != c.want || SameRow(c.b, r) != c.want {
			t.Errorf("SameRow(%v, %v): not %v", r, c.b, c.want)
		}
	}
	v := api.Version{Begin: 3, End: 9, Vec: []int32{1, 2}}
	for _, c := range []struct {
		b    api.Version
		want bool
	}{
		{api.Version{Begin: 3, End: 9, Vec: []int32{1, 2}}, true},
		{api.Version{Begin: 4, End: 9, Vec: []int32{1, 2}}, false},
		{api.Version{Begin: 3, End: 8, Vec: []int32{1, 2}}, false},
		{api.Version{Begin: 3, End: 0, Vec: []int32{1, 2}}, false},
		{api.Version{Begin: 9, End: 3, Vec: []int32{1, 2}}, false},
		{api.Version{Begin: 3, End: 9, Vec: []int32{1, -2}}, false},
		{api.Version{Begin: 3, End: 9, Vec: []int32{1}}, false},
		{api.Version{Begin: 3, End: 9}, false},
		{api.Version{}, false},
	} {
		if SameVersion(v, c.b) != c.want || SameVersion(c.b, v) != c.want {
			t.Errorf("SameVersion(%v, %v): not %v", v, c.b, c.want)
		}
	}
	if !SameRow(api.Row{}, api.Row{Vec: []int32{}}) || !SameVersion(api.Version{Vec: []int32{}}, api.Version{}) {
		t.Error("nil and none are not the same")
	}
}

// behind is v with further components in the room behind its end, which nobody may look at or write to.
func behind(v []int32) []int32 {
	return slices.Concat(v, []int32{most + 1, 77, 77, 77, 77})[:len(v)]
}

// P7.1, R3: checks and comparisons change nothing, and look at nothing behind the end.
func TestChecksChangeNothing(t *testing.T) {
	for _, v := range slices.Concat(goodVecs(), badVecs()) {
		a, b := behind(v), append(slices.Clone(v), 5)[:len(v)]
		whole, other := slices.Clone(a[:len(v)+5]), slices.Clone(b[:len(v)+1])
		if CheckRow(api.Row{Id: 1, Vec: a}) != CheckRow(api.Row{Id: 1, Vec: v}) {
			t.Errorf("CheckRow of %v looks behind it", v)
		}
		if CheckVersion(api.Version{Begin: 1, Vec: a}) != CheckVersion(api.Version{Begin: 1, Vec: v}) {
			t.Errorf("CheckVersion of %v looks behind it", v)
		}
		if !SameRow(api.Row{Id: 1, Vec: a}, api.Row{Id: 1, Vec: b}) || !SameVersion(api.Version{Begin: 1, Vec: a}, api.Version{Begin: 1, Vec: b}) {
			t.Errorf("%v is not the same, with others behind it", v)
		}
		if !slices.Equal(a[:len(v)+5], whole) || !slices.Equal(b[:len(v)+1], other) {
			t.Errorf("%v was changed", v)
		}
	}
}
