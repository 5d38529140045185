package lists

import (
	"slices"
	"testing"

	"quiver/api"
)

// given is all that is handed in to one call or another.
type given struct {
	l, other  api.Lists
	a         api.Arena
	centroids [][]int32
	v         []int32
	slot      int
	slots     []int
	places    []int
}

// answer is what a call answers.
type answer struct {
	l   api.Lists
	m   api.Mask
	n   int
	ok  bool
	err api.Errno
}

// roomy is v with room behind its end in which something stands.
func roomy(v []int32) []int32 {
	return slices.Concat(v, []int32{99, 98, 97})[:len(v)]
}

func roomyAll(c [][]int32) [][]int32 {
	m := slices.Concat(c, ones(95, 94))
	for i := range m {
		m[i] = roomy(m[i])
	}
	return m[:len(c)]
}

func roomyLists(l api.Lists) api.Lists {
	return api.Lists{Centroids: roomyAll(l.Centroids), Masks: slices.Concat(l.Masks, []api.Mask{maskOf(1), maskOf(2)})[:len(l.Masks)]}
}

func roomyNumbers(l []int) []int {
	return slices.Concat(l, []int{93, 92})[:len(l)]
}

// behind is g with memory of its own, and with room behind each end in which something stands.
func behind(g given) given {
	cells := slices.Concat(g.a.Cells, []api.Cell{cell(9), cell(8)})
	for i := range cells {
		cells[i].Version.Vec = roomy(cells[i].Version.Vec)
	}
	return given{
		roomyLists(g.l), roomyLists(g.other), api.Arena{Cells: cells[:len(g.a.Cells)]}, roomyAll(g.centroids), roomy(g.v), g.slot, roomyNumbers(g.slots), roomyNumbers(g.places),
	}
}

// vecs are all vectors that stand in what behind made, in the room behind its ends too.
func vecs(g given) [][]int32 {
	l := slices.Concat(g.l.Centroids[:len(g.l.Centroids)+2], g.other.Centroids[:len(g.other.Centroids)+2], g.centroids[:len(g.centroids)+2], [][]int32{g.v})
	for _, c := range g.a.Cells[:len(g.a.Cells)+2] {
		l = append(l, c.Version.Vec)
	}
	return l
}

// told are all numbers that stand in what behind made, in the room behind its ends too.
func told(g given) []uint64 {
	l := []uint64{uint64(len(g.l.Centroids)), uint64(len(g.other.Centroids)), uint64(len(g.centroids)), uint64(len(g.a.Cells)), uint64(len(g.slots)), uint64(len(g.places))}
	for _, v := range vecs(g) {
		l = append(l, uint64(len(v)))
		for _, component := range v[:len(v)+3] {
			l = append(l, uint64(component))
		}
	}
	for _, m := range slices.Concat(g.l.Masks[:len(g.l.Masks)+2], g.other.Masks[:len(g.other.Masks)+2]) {
		l = append(l, m[0], m[1])
	}
	for _, c := range g.a.Cells[:len(g.a.Cells)+2] {
		l = append(l, c.Id, c.Version.Begin, c.Version.End)
		if c.Used {
			l = append(l, 1)
		}
	}
	for _, n := range slices.Concat(g.slots[:len(g.slots)+2], g.places[:len(g.places)+2]) {
		l = append(l, uint64(n))
	}
	return l
}

// fill sets all that stands in l, and in the room behind its end, to another thing.
func fill[T any](l []T, x T) {
	l = l[:cap(l)]
	for i := range l {
		l[i] = x
	}
}

// wipeVecs sets all that stands in c's vectors, and behind their ends, to another thing, and then c itself.
func wipeVecs(c [][]int32) {
	for _, v := range c[:cap(c)] {
		fill(v, -555)
	}
	fill(c, []int32{-555})
}

func wipeLists(l api.Lists) {
	wipeVecs(l.Centroids)
	fill(l.Masks, maskOf(5, 55, 95))
}

func wipeGiven(g given) {
	wipeLists(g.l)
	wipeLists(g.other)
	wipeVecs(g.centroids)
	fill(g.v, -555)
	for _, c := range g.a.Cells[:cap(g.a.Cells)] {
		fill(c.Version.Vec, -555)
	}
	fill(g.a.Cells, cell(-555))
	fill(g.slots, 55)
	fill(g.places, 0)
}

// kept is the answer in memory of its own.
func kept(x answer) answer {
	x.l = ownLists(x.l)
	return x
}

func alike(x, y answer) bool {
	return wordedSame(x.l, y.l) && x.m == y.m && x.n == y.n && x.ok == y.ok && x.err == y.err
}

// calls are all of them.
func calls() []func(g given) answer {
	return []func(g given) answer{
		func(g given) answer { return answer{err: Check(g.l)} },
		func(g given) answer {
			l, err := Build(g.a, g.centroids)
			return answer{l: l, err: err}
		},
		func(g given) answer {
			l, err := Build(g.a, g.l.Centroids)
			return answer{l: l, err: err}
		},
		func(g given) answer {
			l, err := Add(g.l, g.slot, g.v)
			return answer{l: l, err: err}
		},
		func(g given) answer {
			l, err := Remove(g.l, g.slots...)
			return answer{l: l, err: err}
		},
		func(g given) answer {
			place, there := Where(g.l, g.slot)
			return answer{n: place, ok: there}
		},
		func(g given) answer {
			m, err := Union(g.l, g.places...)
			return answer{m: m, err: err}
		},
		func(g given) answer { return answer{ok: Agrees(g.l, g.a)} },
		func(g given) answer { return answer{ok: Same(g.l, g.other)} },
	}
}

// allGiven are arguments of all kinds: that may be and that may not.
func allGiven() []given {
	arenas := append(goodArenas(), badArenas()[:30]...)
	bad, badSets := badLists(), badCentroids()
	var l []given
	for i, x := range append(goodLists(), bad[len(bad)-60:]...) {
		dim := 1
		if len(x.Centroids) > 0 {
			dim = max(len(x.Centroids[0]), 1)
		}
		a, v := arenas[i%len(arenas)], make([]int32, min(dim, 4))
		l = append(l,
			given{x, ownLists(x), a, goodCentroids(1 + i%4)[i%20], v, i % slots, spread(i%9, slots, 1+i%7), spread(0, len(x.Masks), 1)},
			given{x, sharedOut(5, x.Centroids), wide(min(dim, 4), 9), goodCentroids(min(dim, 4))[i%30], v, 95, nil, []int{len(x.Masks) / 2}},
			given{x, api.Lists{}, a, badSets[i*5%len(badSets)], badVecs()[i%10], 60, []int{3, 96}, []int{0, 7}},
			given{x, x, thinned(wide(min(dim, 4), 9), spread(0, slots, 3)...), x.Centroids, other(dim), -1, []int{5, 5}, nil},
		)
		if built, err := wordedBuild(wide(min(dim, 4), 9), x.Centroids); err == api.OK {
			l = append(l, given{built, ownLists(built), wide(min(dim, 4), 9), x.Centroids, v, 0, []int{1}, []int{0, 0}})
		}
	}
	return append(l, given{})
}

// R3, R5: what is handed in stays as it is, the room behind its ends too, and is not kept; what is answered is new memory, each time the same.
func TestMemory(t *testing.T) {
	for _, g := range allGiven() {
		for i, do := range calls() {
			mine := behind(g)
			was := told(mine)
			first, again := do(mine), do(mine)
			if !slices.Equal(told(mine), was) {
				t.Errorf("call %d of %v: what was handed in is %v", i, g, mine)
			}
			want := kept(first)
			if !alike(again, want) {
				t.Errorf("call %d of %v: %v, and then %v", i, g, want, again)
			}
			wipeLists(again.l)
			if !slices.Equal(told(mine), was) {
				t.Errorf("call %d of %v: what is answered shares memory with what was handed in", i, g)
			}
			if !alike(first, want) {
				t.Errorf("call %d of %v: two answers share memory", i, g)
			}
			wipeGiven(mine)
			if !alike(first, want) {
				t.Errorf("call %d of %v: %v is %v now", i, g, want, first)
			}
			if later := do(behind(g)); !alike(later, want) {
				t.Errorf("call %d of %v: %v, and later %v", i, g, want, later)
			}
		}
	}
}

// R3: no two centroids of one answer share memory, nor the room behind their ends.
func TestAnswersApart(t *testing.T) {
	for _, g := range allGiven() {
		for i, do := range calls() {
			l := do(behind(g)).l
			for place, v := range l.Centroids {
				others := ownLists(l)
				fill(v, -777)
				others.Centroids[place] = slices.Clone(v)
				if !wordedSame(l, others) {
					t.Errorf("call %d of %v: the centroid at %d shares memory with another", i, g, place)
				}
			}
		}
	}
}

// R3: centroids that are handed in, a vector and those of cells may share memory; those that are answered do not.
func TestSharedVectors(t *testing.T) {
	v := []int32{4, 5}
	c := slices.Repeat([][]int32{v}, maxLists)
	l := api.Lists{Centroids: c, Masks: make([]api.Mask, maxLists)}
	full := laid()
	for slot := range slots {
		full.Cells[slot] = cell(v...)
		full.Cells[slot].Version.Vec = v
	}
	built, err := Build(full, c)
	comes(t, built, err, listed(c, spread(0, slots, 1)), api.OK, "Build")
	added, err := Add(l, 5, v)
	comes(t, added, err, listed(c, []int{5}), api.OK, "Add")
	removed, err := Remove(l, 5)
	comes(t, removed, err, listed(c), api.OK, "Remove")
	agrees(t, built, full, true)
	for _, answered := range []api.Lists{built, added, removed} {
		for place, w := range answered.Centroids {
			w[0] = int32(100 + place)
		}
		for place, w := range answered.Centroids {
			if w[0] != int32(100+place) {
				t.Errorf("%v", answered.Centroids)
			}
		}
	}
	if !slices.Equal(v, []int32{4, 5}) {
		t.Errorf("%v", v)
	}
}

// R5: the same arguments have the same answers, whatever was asked between.
func TestAskedAgain(t *testing.T) {
	all := allGiven()
	var wants []answer
	for _, g := range all {
		for _, do := range calls() {
			wants = append(wants, do(g))
		}
	}
	slices.Reverse(wants)
	slices.Reverse(all)
	for _, g := range all {
		asks := calls()
		slices.Reverse(asks)
		for _, do := range asks {
			if got := do(g); !alike(got, wants[0]) {
				t.Errorf("%v: %v, and then %v", g, wants[0], got)
			}
			wants = wants[1:]
		}
	}
}
