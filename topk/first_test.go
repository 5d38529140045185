package topk

import (
	"math"
	"slices"
	"testing"

	"quiver/api"
)

// worded is the first k of all hits as the chapter words it: all of them in order, cut behind k.
func worded(k int, rows ...[]api.Hit) []api.Hit {
	all := slices.Concat(rows...)
	slices.SortFunc(all, ordered)
	return all[:min(k, len(all))]
}

// mixed are n hits in no order, with distances and numbers below the bound, so that many are the same if it is low.
func mixed(seed uint64, n int, bound uint64) []api.Hit {
	next := func() uint64 {
		seed = seed*6364136223846793005 + 1442695040888963407
		return seed >> 33 % bound
	}
	var l []api.Hit
	for range n {
		l = append(l, api.Hit{Id: next(), Dist: next()})
	}
	return l
}

// offers holds the selection behind an Offer against the hits that it has to have.
func offers(t *testing.T, top api.Top, l, want []api.Hit) {
	t.Helper()
	got, err := Offer(top, l...)
	if err != api.OK || got.K != top.K || !slices.Equal(got.Hits, want) {
		t.Errorf("Offer(%v, %v): %v, %d, not %v", top, l, got, err, want)
	}
	if Check(got) != api.OK {
		t.Errorf("Offer(%v, %v): %v may not be", top, l, got)
	}
}

// offersNot holds what Offer answers against an error, with nothing beside it.
func offersNot(t *testing.T, top api.Top, l []api.Hit, want api.Errno) {
	t.Helper()
	if got, err := Offer(top, l...); err != want || got.K != 0 || len(got.Hits) != 0 {
		t.Errorf("Offer(%v, %d hits): %v, %d, not %d", top, len(l), got, err, want)
	}
}

// merges holds what Merge answers, and First of the rows in one, against the hits that have to come.
func merges(t *testing.T, k int, rows [][]api.Hit, want []api.Hit) {
	t.Helper()
	if got, err := Merge(k, rows...); err != api.OK || !slices.Equal(got, want) {
		t.Errorf("Merge(%d, %v): %v, %d, not %v", k, rows, got, err, want)
	}
	if got, err := First(slices.Concat(rows...), k); err != api.OK || !slices.Equal(got, want) {
		t.Errorf("First(%v, %d): %v, %d, not %v", rows, k, got, err, want)
	}
}

// mergesNot is the same with an error, and nothing beside it.
func mergesNot(t *testing.T, k int, rows [][]api.Hit, want api.Errno) {
	t.Helper()
	if got, err := Merge(k, rows...); err != want || len(got) != 0 {
		t.Errorf("Merge(%d, %d rows): %v, %d, not %d", k, len(rows), got, err, want)
	}
	if got, err := First(slices.Concat(rows...), k); err != want || len(got) != 0 {
		t.Errorf("First(.., %d): %v, %d, not %d", k, got, err, want)
	}
}

// P6.2, P6.3: the chapter's examples.
func TestExamples(t *testing.T) {
	merges(t, 2, [][]api.Hit{at(7, 3, 2, 4, 1, 3)}, at(1, 3, 7, 3))
	merges(t, 3, [][]api.Hit{at(1, 1, 2, 5), at(1, 1, 9, 2)}, at(1, 1, 1, 1, 9, 2))
	merges(t, 1, nil, nil)
	mergesNot(t, 0, nil, api.ErrArg)
	top, _ := New(2)
	offers(t, top, at(5, 9), at(5, 9))
	top, _ = Offer(top, at(5, 9)...)
	offers(t, top, at(4, 9, 6, 1), at(6, 1, 4, 9))
	top, _ = Offer(top, at(4, 9, 6, 1)...)
	if got, ok := Last(top); !ok || got != (api.Hit{Id: 4, Dist: 9}) {
		t.Errorf("Last(%v): %v, %v", top, got, ok)
	}
}

// P6.2: to selections that may not be, with too many hits too: ErrTop goes ahead.
func TestOfferToBad(t *testing.T) {
	var bad []api.Top
	for _, k := range noKs {
		bad = append(bad, api.Top{K: k}, api.Top{K: k, Hits: at(1, 1)})
	}
	for k := 1; k <= api.MaxK; k++ {
		bad = append(bad, api.Top{K: k, Hits: counted(5, k+1)})
		if k > 1 {
			bad = append(bad, api.Top{K: k, Hits: at(1, 1, 1, 0)}, api.Top{K: k, Hits: at(2, 1, 1, 1)})
		}
	}
	for _, top := range bad {
		for _, n := range []int{0, 1, api.MaxHits, api.MaxHits + 1, 2 * api.MaxHits} {
			offersNot(t, top, counted(0, n), api.ErrTop)
		}
	}
}

// P6.2: up to MaxHits hits, whatever the selection has; not one more.
func TestOfferOfLimits(t *testing.T) {
	for k := 1; k <= api.MaxK; k++ {
		for _, has := range [][]api.Hit{nil, counted(1000, k-1), counted(1000, k), counted(5000, k)} {
			top := api.Top{K: k, Hits: has}
			for _, n := range []int{0, 1, api.MaxHits - 1, api.MaxHits} {
				l := counted(7, n)
				offers(t, top, l, worded(k, has, l))
				slices.Reverse(l)
				offers(t, top, l, worded(k, has, l))
			}
			for _, n := range []int{api.MaxHits + 1, api.MaxHits + 2, 3 * api.MaxHits} {
				offersNot(t, top, counted(7, n), api.ErrLong)
			}
		}
	}
}

// P6.2: no hits: the selection is what it was.
func TestOfferOfNone(t *testing.T) {
	for k := 1; k <= api.MaxK; k++ {
		for n := range k + 1 {
			top := api.Top{K: k, Hits: counted(3, n)}
			offers(t, top, nil, top.Hits)
			offers(t, top, []api.Hit{}, top.Hits)
			// The hits behind the end are not offered.
			offers(t, top, roomy(nil), top.Hits)
		}
	}
}

// P6.2: hits of one distance, of one Id, and of both, up and down, some of them in already.
func TestOfferOfTheSame(t *testing.T) {
	for k := 1; k <= api.MaxK; k++ {
		for n := range 2*k + 2 {
			var dists, ids, both []api.Hit
			for i := range uint64(n) {
				dists = append(dists, api.Hit{Id: i, Dist: 4})
				ids = append(ids, api.Hit{Id: 4, Dist: i})
				both = append(both, api.Hit{Id: 4, Dist: 4})
			}
			for _, l := range [][]api.Hit{dists, ids, both} {
				for _, has := range [][]api.Hit{nil, l[:min(k/2, n)], l[:min(k, n)]} {
					top := api.Top{K: k, Hits: has}
					offers(t, top, l, worded(k, has, l))
					down := slices.Clone(l)
					slices.Reverse(down)
					offers(t, top, down, worded(k, has, l))
				}
			}
		}
	}
}

// P6.2: one that is in already, offered again, is in twice; if it is full, the last one leaves for it.
func TestOfferOfOneThatIsIn(t *testing.T) {
	for k := 1; k <= api.MaxK; k++ {
		full := counted(3, k)
		for place, hit := range full {
			twice := slices.Insert(slices.Clone(full), place, hit)
			offers(t, api.Top{K: k, Hits: full}, []api.Hit{hit}, twice[:k])
			if k < api.MaxK {
				offers(t, api.Top{K: k + 1, Hits: full}, []api.Hit{hit}, twice)
			}
		}
		offers(t, api.Top{K: k, Hits: full}, full, worded(k, full, full))
	}
	offers(t, api.Top{K: 3, Hits: at(1, 1, 2, 2)}, at(1, 1, 1, 1), at(1, 1, 1, 1, 1, 1))
}

// P6.2: one hit at each edge, to full ones and to such as have room, as the chapter words it.
func TestOfferAtEdges(t *testing.T) {
	for _, a := range edgeHits() {
		for _, b := range edgeHits() {
			offers(t, api.Top{K: 1, Hits: []api.Hit{a}}, []api.Hit{b}, worded(1, []api.Hit{a, b}))
			offers(t, api.Top{K: 2, Hits: []api.Hit{a}}, []api.Hit{b}, worded(2, []api.Hit{a, b}))
			offers(t, api.Top{K: 3, Hits: []api.Hit{a}}, []api.Hit{b, b, a}, worded(3, []api.Hit{a, b, b, a}))
		}
	}
	for _, hit := range at(0, 0, 0, math.MaxUint64, math.MaxUint64, 0, math.MaxUint64, math.MaxUint64) {
		for k := 1; k <= api.MaxK; k++ {
			top := api.Top{K: k, Hits: counted(1, k)}
			offers(t, top, []api.Hit{hit}, worded(k, top.Hits, []api.Hit{hit}))
			offers(t, api.Top{K: k}, []api.Hit{hit}, []api.Hit{hit})
		}
	}
}

// P6.2: a hit that does not stand ahead of the last one of a full selection changes nothing; one that does takes its place among them.
func TestOfferAroundTheLast(t *testing.T) {
	for k := 1; k <= api.MaxK; k++ {
		var has []api.Hit
		for i := range uint64(k) {
			has = append(has, api.Hit{Id: 10 * i, Dist: 10 * i})
		}
		top := api.Top{K: k, Hits: has}
		last, ok := Last(top)
		if !ok {
			t.Fatalf("%v is not full", top)
		}
		for _, id := range []uint64{last.Id, last.Id + 1, math.MaxUint64} {
			offers(t, top, []api.Hit{{Id: id, Dist: last.Dist}}, has)
			offers(t, top, []api.Hit{{Id: id, Dist: last.Dist + 1}, {Id: 0, Dist: last.Dist + 1}}, has)
		}
		for place, hit := range has {
			if hit.Id == 0 {
				continue
			}
			one := api.Hit{Id: hit.Id - 1, Dist: hit.Dist}
			offers(t, top, []api.Hit{one}, slices.Insert(slices.Clone(has), place, one)[:k])
		}
	}
}

// P6.3: each K from -1 to MaxK and 2, of each number of hits up to some above MaxK.
func TestMergeOfEachK(t *testing.T) {
	for k := -1; k <= api.MaxK+2; k++ {
		for n := range api.MaxK + 4 {
			l := mixed(uint64(n), n, 1<<20)
			rows := [][]api.Hit{l[:n/3], l[n/3 : n/2], l[n/2:]}
			if slices.Contains(noKs, k) {
				mergesNot(t, k, rows, api.ErrArg)
			} else {
				merges(t, k, rows, worded(k, l))
			}
		}
	}
}

// P6.3: a K that is none goes ahead of too many hits.
func TestMergeOfBadK(t *testing.T) {
	for _, k := range noKs {
		for _, n := range []int{0, 1, api.MaxHits, api.MaxHits + 1, 5000} {
			mergesNot(t, k, [][]api.Hit{counted(0, n)}, api.ErrArg)
		}
		mergesNot(t, k, nil, api.ErrArg)
		mergesNot(t, k, [][]api.Hit{nil, {}}, api.ErrArg)
	}
}

// P6.3: no rows, empty ones, nil ones, and such among others.
func TestMergeOfNone(t *testing.T) {
	for k := 1; k <= api.MaxK; k++ {
		merges(t, k, nil, nil)
		merges(t, k, [][]api.Hit{}, nil)
		merges(t, k, [][]api.Hit{nil}, nil)
		merges(t, k, [][]api.Hit{{}, nil, {}}, nil)
		merges(t, k, [][]api.Hit{nil, at(3, 4), {}}, at(3, 4))
		// The hits behind the end do not count.
		merges(t, k, [][]api.Hit{roomy(nil), roomy(at(3, 4))}, at(3, 4))
		if got, err := First(nil, k); err != api.OK || len(got) != 0 {
			t.Errorf("First(nil, %d): %v, %d", k, got, err)
		}
		merges(t, k, slices.Repeat([][]api.Hit{nil}, 5000), nil)
	}
}

// parted is l in rows of that length.
func parted(l []api.Hit, length int) [][]api.Hit {
	return slices.Collect(slices.Chunk(l, length))
}

// P6.3: MaxHits hits in one row, in many, in one each; and one more, in whatever row it is.
func TestMergeOfLimits(t *testing.T) {
	l := mixed(3, api.MaxHits, 1<<30)
	for k := 1; k <= api.MaxK; k++ {
		want := worded(k, l)
		for _, length := range []int{1, 2, 7, 999, 1000, 1999, api.MaxHits} {
			merges(t, k, parted(l, length), want)
		}
	}
	for _, k := range []int{1, 2, api.MaxK} {
		for _, length := range []int{1, 2, 7, 999, 1000, 1999, api.MaxHits, api.MaxHits + 1} {
			mergesNot(t, k, parted(counted(0, api.MaxHits+1), length), api.ErrLong)
		}
		mergesNot(t, k, [][]api.Hit{l, at(1, 1)}, api.ErrLong)
		mergesNot(t, k, [][]api.Hit{at(1, 1), l}, api.ErrLong)
		mergesNot(t, k, [][]api.Hit{l, nil, l}, api.ErrLong)
		merges(t, k, [][]api.Hit{nil, l, {}}, worded(k, l))
	}
}

// P6.3: many rows of many kinds, as the chapter words it, with few and many that are the same.
func TestMergeAsWorded(t *testing.T) {
	for seed := range uint64(40) {
		for _, bound := range []uint64{1, 2, 5, 30, 1 << 31} {
			for _, n := range []int{1, 2, 17, 33, 200} {
				l := mixed(seed, n, bound)
				k := 1 + int(seed)%api.MaxK
				merges(t, k, parted(l, 1+int(seed)%9), worded(k, l))
			}
		}
	}
}

// P6.3: hits at the edges of distances and numbers, in one row and in as many as there are distances.
func TestMergeAtEdges(t *testing.T) {
	l := edgeHits()
	for k := 1; k <= api.MaxK; k++ {
		merges(t, k, parted(l, len(edges())), l[:k])
		slices.Reverse(l)
		merges(t, k, [][]api.Hit{l}, worded(k, l))
		merges(t, k, [][]api.Hit{l[:k]}, worded(k, l[:k]))
		slices.Reverse(l)
	}
}

// R3: what is handed in stays as it is, the room behind its end too, and is not kept: what is answered changes with none of it.
func TestHandedInAndOut(t *testing.T) {
	far := api.Hit{Id: 9, Dist: 9999}
	for k := 1; k <= api.MaxK; k++ {
		for n := range k + 3 {
			has, l := counted(4, min(n, k)), mixed(uint64(n), n, 50)
			room, more := roomy(has), roomy(l)
			top, err := Offer(api.Top{K: k, Hits: room}, more...)
			merged, err2 := Merge(k, room, more)
			first, err3 := First(more, k)
			if err != api.OK || err2 != api.OK || err3 != api.OK {
				t.Fatalf("%d, %d, %d", err, err2, err3)
			}
			untouched(t, "the selection", room, has)
			untouched(t, "the hits", more, l)
			for _, answer := range [][]api.Hit{top.Hits, merged, first} {
				for i := range answer[:cap(answer)] {
					answer[:cap(answer)][i] = far
				}
			}
			untouched(t, "the selection, behind a change of what was answered", room, has)
			untouched(t, "the hits, behind a change of what was answered", more, l)
		}
	}
}

// R3: an answer is memory of its own when all is in order, and fits, already.
func TestAnswersAreNew(t *testing.T) {
	for n := 1; n <= api.MaxK; n++ {
		l := counted(4, n)
		want := slices.Clone(l)
		top, _ := Offer(api.Top{K: n, Hits: l})
		other, _ := Offer(api.Top{K: n}, l...)
		merged, _ := Merge(n, l)
		both, _ := Merge(n, l, nil)
		first, _ := First(l, n)
		clear(l)
		for _, got := range [][]api.Hit{top.Hits, other.Hits, merged, both, first} {
			if !slices.Equal(got, want) {
				t.Errorf("%v has changed with what was handed in: %v", want, got)
			}
		}
	}
}
