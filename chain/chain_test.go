package chain

import (
	"math"
	"slices"
	"testing"

	"quiver/api"
)

// checks holds what Check answers; what may not be has no visible version at any time, and no last trace either.
func checks(t *testing.T, c []api.Version, want api.Errno) {
	t.Helper()
	if err := Check(c); err != want {
		t.Errorf("Check(%v): %d, not %d", c, err, want)
	}
	if want == api.OK {
		return
	}
	for _, ts := range []uint64{0, 1, 2, 3, 5, 9, 11, last, last + 1, math.MaxUint64} {
		if i, ok := At(c, ts); i != 0 || ok {
			t.Errorf("At(%v, %d): %d, %v", c, ts, i, ok)
		}
	}
	if ts := Last(c); ts != 0 {
		t.Errorf("Last(%v): %d", c, ts)
	}
}

// P8.1: chains that may be.
func TestCheckGood(t *testing.T) {
	checks(t, nil, api.OK)
	for _, c := range goodChains() {
		if !wordedChain(c) {
			t.Fatalf("%v", c)
		}
		checks(t, c, api.OK)
	}
}

// P8.1, P8.2: chains that may not be.
func TestCheckBad(t *testing.T) {
	for _, c := range badChains() {
		if wordedChain(c) {
			t.Fatalf("%v", c)
		}
		checks(t, c, api.ErrChain)
	}
}

// P8.1: one version at the edges, written out.
func TestCheckOne(t *testing.T) {
	for _, c := range []struct {
		begin, end uint64
		want       api.Errno
	}{
		{0, 0, api.ErrChain}, {0, 1, api.ErrChain}, {0, last, api.ErrChain},
		{1, 0, api.OK}, {1, 1, api.ErrChain}, {1, 2, api.OK}, {1, last, api.OK}, {1, last + 1, api.ErrChain}, {1, math.MaxUint64, api.ErrChain},
		{5, 4, api.ErrChain}, {5, 5, api.ErrChain}, {5, 6, api.OK}, {5, 1, api.ErrChain},
		{last - 1, last, api.OK}, {last - 1, last + 1, api.ErrChain},
		{last, 0, api.OK}, {last, last, api.ErrChain}, {last, last - 1, api.ErrChain}, {last, last + 1, api.ErrChain}, {last, 1, api.ErrChain},
		{last + 1, 0, api.ErrChain}, {last + 1, last + 2, api.ErrChain}, {math.MaxUint64, 0, api.ErrChain},
	} {
		checks(t, one(c.begin, c.end, 5), c.want)
		checks(t, one(c.begin, c.end), api.ErrChain)
	}
	for _, v := range goodVecs() {
		checks(t, one(3, 0, v...), api.OK)
		checks(t, one(3, 4, v...), api.OK)
	}
	for _, v := range badVecs() {
		checks(t, one(3, 0, v...), api.ErrChain)
		checks(t, one(3, 4, v...), api.ErrChain)
	}
}

// P8.1: two versions at the edges, written out: Begins that rise, are the same, and fall; an End around its own Begin and the next one's.
func TestCheckTwo(t *testing.T) {
	for _, c := range []struct {
		c    []api.Version
		want api.Errno
	}{
		{row(3, 5, 7, 5, 0, 8), api.OK},
		{row(3, 4, 7, 5, 0, 8), api.OK},
		{row(3, 6, 7, 5, 0, 8), api.ErrChain},
		{row(3, 0, 7, 5, 0, 8), api.ErrChain},
		{row(3, 0, 7, 5, 6, 8), api.ErrChain},
		{row(3, 3, 7, 5, 0, 8), api.ErrChain},
		{row(3, 2, 7, 5, 0, 8), api.ErrChain},
		{row(3, 5, 7, 5, 6, 8), api.OK},
		{row(3, 5, 7, 5, 5, 8), api.ErrChain},
		{row(3, 5, 7, 5, 4, 8), api.ErrChain},
		{row(3, 5, 7, 3, 5, 8), api.ErrChain},
		{row(3, 5, 7, 3, 0, 8), api.ErrChain},
		{row(3, 5, 7, 4, 0, 8), api.ErrChain},
		{row(5, 6, 7, 3, 4, 8), api.ErrChain},
		{row(5, 6, 7, 3, 0, 8), api.ErrChain},
		{row(5, 0, 7, 3, 0, 8), api.ErrChain},
		{row(1, last, 7, last, 0, 8), api.OK},
		{row(1, last, 7, last, last+1, 8), api.ErrChain},
		{row(1, last+1, 7, last+1, 0, 8), api.ErrChain},
		{row(0, 1, 7, 1, 0, 8), api.ErrChain},
		{append(one(3, 5, 1), one(5, 0, 1, 2)...), api.ErrChain},
		{append(one(3, 5, 1, 2, 3), one(5, 0, 1, 2)...), api.ErrChain},
		{append(one(3, 5, 1, 2), one(5, 0, 3, 4)...), api.OK},
		{append(one(3, 5, 1, 2), one(5, 0)...), api.ErrChain},
		{append(one(3, 5), one(5, 0)...), api.ErrChain},
	} {
		checks(t, c.c, c.want)
	}
}

// P8.1: all rows of up to three versions, with all Begins and Ends of a few, low ones and some around the greatest.
func TestCheckAllOfAFew(t *testing.T) {
	good := 0
	for _, times := range [][]uint64{{0, 1, 2, 3, 4}, {0, last - 1, last, last + 1}, {0, 1, 2, last, math.MaxUint64}} {
		var versions []api.Version
		for _, begin := range times {
			for _, end := range times {
				versions = append(versions, api.Version{Begin: begin, End: end, Vec: []int32{5}})
			}
		}
		rows := [][]api.Version{nil}
		for i := 0; i < len(rows); i++ {
			want := api.ErrChain
			if wordedChain(rows[i]) {
				want = api.OK
				good++
			}
			checks(t, rows[i], want)
			if len(rows[i]) == 3 {
				continue
			}
			for _, v := range versions {
				rows = append(rows, append(slices.Clone(rows[i]), v))
			}
		}
	}
	if good < 50 {
		t.Errorf("just %d of them may be", good)
	}
}

// P8.1: what stands in the room behind the end is not of the chain.
func TestCheckRoom(t *testing.T) {
	c := append(long(full, 10, true, 5), one(0, 0)...)
	checks(t, c, api.ErrChain)
	checks(t, c[:full], api.OK)
	checks(t, c[:0], api.OK)
	bad := append(row(3, 5, 7), one(3, 0, 1, 2)...)
	checks(t, bad[:1], api.OK)
}

// same holds what Same answers, both ways.
func same(t *testing.T, a, b []api.Version, want bool) {
	t.Helper()
	if Same(a, b) != want || Same(b, a) != want {
		t.Errorf("Same(%v, %v): not %v", a, b, want)
	}
}

// P8.1: each chain is the same as itself, and as one with memory of its own; whether it may be or not.
func TestSameAsItself(t *testing.T) {
	for _, c := range slices.Concat(goodChains(), badChains()) {
		same(t, c, c, true)
		same(t, c, own(c), true)
	}
	same(t, nil, []api.Version{}, true)
	same(t, []api.Version{{}}, []api.Version{{Vec: []int32{}}}, true)
}

// P8.1: chains of which no two are the same.
func TestSameNot(t *testing.T) {
	l := small(4)
	for _, c := range l {
		if len(c) > 0 {
			d := own(c)
			d[len(d)-1].Vec = []int32{0, 0}
			l = append(l, d)
		}
	}
	for i, a := range l {
		for j, b := range l {
			if Same(a, b) != (i == j) {
				t.Errorf("Same(%v, %v): not %v", a, b, i == j)
			}
		}
	}
}

// P8.1: chains that differ in one version, at each place, in one field, in one component, in how many there are.
func TestSameButForOne(t *testing.T) {
	for _, n := range []int{1, 2, 3, full, full + 1} {
		c := long(n, 8, true, 5, 6, 7)
		for place := range n {
			for component := range 3 {
				d := own(c)
				d[place].Vec[component]++
				same(t, c, d, false)
			}
			for _, change := range []func(v *api.Version){
				func(v *api.Version) { v.Begin++ },
				func(v *api.Version) { v.End++ },
				func(v *api.Version) { v.Begin += 1 << 40 },
				func(v *api.Version) { v.End += 1 << 63 },
				func(v *api.Version) { v.Vec = v.Vec[:2] },
				func(v *api.Version) { v.Vec = append(v.Vec, 0) },
				func(v *api.Version) { v.Vec = nil },
			} {
				d := own(c)
				change(&d[place])
				same(t, c, d, false)
			}
			same(t, c, slices.Delete(own(c), place, place+1), false)
			same(t, c, c[:place], false)
		}
	}
	same(t, nil, []api.Version{{}}, false)
	same(t, row(3, 5, 7, 5, 0, 8), row(5, 0, 8, 3, 5, 7), false)
}

// sees holds what At answers against what the chapter says.
func sees(t *testing.T, c []api.Version, ts uint64) {
	t.Helper()
	places := wordedAt(c, ts)
	if len(places) > 1 {
		t.Fatalf("%v: %v at %d", c, places, ts)
	}
	place := 0
	for _, i := range places {
		place = i
	}
	if i, ok := At(c, ts); i != place || ok != (len(places) == 1) {
		t.Errorf("At(%v, %d): %d, %v, not of %v", c, ts, i, ok, places)
	}
}

// P8.2: the chapter's examples, and times around them, written out.
func TestAtEdges(t *testing.T) {
	c := row(3, 5, 7, 5, 0, 8)
	gap := row(3, 5, 7, 8, 9, 8)
	for _, want := range []struct {
		c     []api.Version
		ts    uint64
		place int
		ok    bool
	}{
		{c, 0, 0, false}, {c, 2, 0, false}, {c, 3, 0, true}, {c, 4, 0, true}, {c, 5, 1, true}, {c, 6, 1, true},
		{c, last, 1, true}, {c, last + 1, 1, true}, {c, 1 << 63, 1, true}, {c, math.MaxUint64, 1, true},
		{gap, 2, 0, false}, {gap, 4, 0, true}, {gap, 5, 0, false}, {gap, 6, 0, false}, {gap, 7, 0, false},
		{gap, 8, 1, true}, {gap, 9, 0, false}, {gap, last, 0, false}, {gap, math.MaxUint64, 0, false},
		{nil, 0, 0, false}, {nil, 5, 0, false}, {nil, math.MaxUint64, 0, false},
		{row(1, last, 7), last - 1, 0, true}, {row(1, last, 7), last, 0, false}, {row(last, 0, 7), last - 1, 0, false}, {row(last, 0, 7), last, 0, true},
		{row(3, 5, 7, 4, 0, 8), 3, 0, false}, {row(3, 0, 7, 5, 0, 8), 6, 0, false}, {one(3, 0), 3, 0, false},
	} {
		if place, ok := At(want.c, want.ts); place != want.place || ok != want.ok {
			t.Errorf("At(%v, %d): %d, %v", want.c, want.ts, place, ok)
		}
	}
}

// P8.2: at each Begin and End, one below and one above, and at the utmost times.
func TestAtAllTimes(t *testing.T) {
	for _, c := range goodChains() {
		for _, ts := range timesOf(c) {
			sees(t, c, ts)
		}
	}
}

// P8.2: the last trace, of chains that may be and that may not.
func TestLast(t *testing.T) {
	for _, want := range []struct {
		c    []api.Version
		last uint64
	}{
		{nil, 0}, {[]api.Version{}, 0},
		{row(3, 5, 7, 5, 0, 8), 5}, {row(3, 5, 7, 5, 9, 8), 9}, {row(3, 5, 7, 8, 0, 8), 8}, {row(3, 5, 7), 5}, {row(3, 0, 7), 3},
		{row(last, 0, 7), last}, {row(1, last, 7), last}, {row(1, last, 7, last, 0, 8), last}, {row(1, 0, 7), 1},
		{row(3, 3, 7), 0}, {row(3, 0, 7, 5, 0, 8), 0}, {row(3, 6, 7, 5, 0, 8), 0}, {one(3, 0), 0}, {row(0, 5, 7), 0},
	} {
		if ts := Last(want.c); ts != want.last {
			t.Errorf("Last(%v): %d, not %d", want.c, ts, want.last)
		}
	}
	for _, c := range goodChains() {
		if ts := Last(c); ts != wordedLast(c) {
			t.Errorf("Last(%v): %d, not %d", c, ts, wordedLast(c))
		}
	}
}
