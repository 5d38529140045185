package probe

import (
	"slices"
	"testing"

	"quiver/api"
)

// given is all that is handed in to one call or another.
type given struct {
	a    api.Arena
	l    api.Lists
	rows []api.Row
	c    [][]int32
	v    []int32
	p    api.Probe
}

// answer is what a call answers.
type answer struct {
	places []int
	hits   []api.Hit
	err    api.Errno
}

// roomy is v with room behind its end in which something stands.
func roomy(v []int32) []int32 {
	return slices.Concat(v, []int32{99, 98, 97})[:len(v)]
}

func roomyAll(c [][]int32) [][]int32 {
	m := slices.Concat(c, ones(95, 94))
	for i := range m {
		m[i] = roomy(m[i])
	}
	return m[:len(c)]
}

// behind is g with memory of its own, and with room behind each end in which something stands.
func behind(g given) given {
	cells := slices.Concat(g.a.Cells, []api.Cell{at(9, 9), at(8, 8)})
	for i := range cells {
		cells[i].Version.Vec = roomy(cells[i].Version.Vec)
	}
	l := slices.Concat(g.rows, []api.Row{row(9, 9), row(8, 8)})
	for i := range l {
		l[i].Vec = roomy(l[i].Vec)
	}
	masks := slices.Concat(g.l.Masks, []api.Mask{maskOf(1), maskOf(2)})
	g.a.Cells, g.rows = cells[:len(g.a.Cells)], l[:len(g.rows)]
	g.l = api.Lists{Centroids: roomyAll(g.l.Centroids), Masks: masks[:len(g.l.Masks)]}
	g.c, g.v, g.p.Query.Vec = roomyAll(g.c), roomy(g.v), roomy(g.p.Query.Vec)
	return g
}

// vecs are all vectors that stand in what behind made, in the room behind its ends too.
func vecs(g given) [][]int32 {
	l := slices.Concat(g.l.Centroids[:len(g.l.Centroids)+2], g.c[:len(g.c)+2], [][]int32{g.v, g.p.Query.Vec})
	for _, c := range g.a.Cells[:len(g.a.Cells)+2] {
		l = append(l, c.Version.Vec)
	}
	for _, r := range g.rows[:len(g.rows)+2] {
		l = append(l, r.Vec)
	}
	return l
}

// told are all numbers that stand in what behind made, in the room behind its ends too.
func told(g given) []uint64 {
	l := []uint64{uint64(len(g.a.Cells)), uint64(len(g.l.Centroids)), uint64(len(g.l.Masks)), uint64(len(g.rows)), uint64(len(g.c)), uint64(g.p.Query.K), uint64(g.p.N), g.p.Ts}
	for _, v := range vecs(g) {
		l = append(l, uint64(len(v)))
		for _, component := range v[:len(v)+3] {
			l = append(l, uint64(component))
		}
	}
	for _, m := range g.l.Masks[:len(g.l.Masks)+2] {
		l = append(l, m[0], m[1])
	}
	for _, c := range g.a.Cells[:len(g.a.Cells)+2] {
		l = append(l, c.Id, c.Version.Begin, c.Version.End)
		if c.Used {
			l = append(l, 1)
		}
	}
	for _, r := range g.rows[:len(g.rows)+2] {
		l = append(l, r.Id)
	}
	return l
}

// fill sets all that stands in l, and in the room behind its end, to another thing.
func fill[T any](l []T, x T) {
	l = l[:cap(l)]
	for i := range l {
		l[i] = x
	}
}

// wipe sets all that stands in what behind made, and behind its ends, to another thing.
func wipe(g given) {
	for _, v := range vecs(g) {
		fill(v, -555)
	}
	fill(g.l.Centroids, []int32{-555})
	fill(g.l.Masks, maskOf(5, 55, 95))
	fill(g.c, []int32{-555})
	fill(g.a.Cells, at(12345, 7))
	fill(g.rows, row(54321, 7))
}

// wipeAnswer sets all that stands in what is answered, and behind its ends, to another thing.
func wipeAnswer(x answer) {
	fill(x.places, 555)
	fill(x.hits, api.Hit{Id: 555, Dist: 555})
}

// kept is the answer in memory of its own.
func kept(x answer) answer {
	return answer{slices.Clone(x.places), slices.Clone(x.hits), x.err}
}

func alike(x, y answer) bool {
	return slices.Equal(x.places, y.places) && slices.Equal(x.hits, y.hits) && x.err == y.err
}

// calls are all of them.
func calls() []func(g given) answer {
	return []func(g given) answer{
		func(g given) answer { return answer{err: Check(g.p)} },
		func(g given) answer {
			l, err := Nearest(g.c, g.v, g.p.N)
			return answer{places: l, err: err}
		},
		func(g given) answer {
			l, err := Nearest(g.l.Centroids, g.p.Query.Vec, g.p.N)
			return answer{places: l, err: err}
		},
		func(g given) answer {
			l, err := Search(g.a, g.l, g.p)
			return answer{hits: l, err: err}
		},
		func(g given) answer {
			l, err := Rows(g.rows, g.c, g.p)
			return answer{hits: l, err: err}
		},
		func(g given) answer {
			l, err := Rows(g.rows, g.l.Centroids, g.p)
			return answer{hits: l, err: err}
		},
	}
}

// allGiven are arguments of all kinds: that may be and that may not.
func allGiven() []given {
	var l []given
	for dim := 1; dim <= 4; dim++ {
		sets := goodCentroids(dim)
		for i, a := range append(arenasOf(dim), mixedArenas(dim)[:4]...) {
			c, d := sets[i%len(sets)], sets[i*7%len(sets)]
			in, v := someRows(i, dim, 9), scattered(uint64(i), 1, dim, 9)[0]
			l = append(l,
				given{a, sharedOut(uint64(i), c), in, d, v, probing(maxK, 1+i%6, 15, v...)},
				given{a, listed(c, allSlots()), in, d, other(dim), probing(3, 2, 8, v...)},
				given{a, sharedOut(9, c), in, nil, v, probing(1+i, 1, 12, v...)},
				given{a, api.Lists{}, append(in, row(5)), c, nil, probing(1, 1+i, 12, v...)},
			)
			if i < 10 {
				l = append(l, given{a, wordedBuild(a, c), in, c, v, probing(5, 1+i%3, 20, v...)})
			}
		}
	}
	for i, c := range fewBadCentroids() {
		l = append(l, given{fewBadArenas()[i%5], fewBadLists()[i], nil, c, fewBadVecs()[i%5], probing(1, i, 9, 5)}, given{fewBadArenas()[i%5], listed(ones(5)), nil, ones(5), []int32{5}, probing(1, 1, 9, 5)})
	}
	return append(l,
		given{laid(), listed(ones(5)), numbered(many, 0), ones(0, 5000), []int32{5}, probing(maxK, 1, 0, 1000)},
		given{laid(), listed(ones(5)), numbered(many+1, 0), ones(0, 5000), []int32{5}, probing(maxK, 2, 0, 1000)},
		given{},
	)
}

// R3, R5: what is handed in stays as it is, the room behind its ends too, and is not kept; what is answered is new memory, each time the same.
func TestMemory(t *testing.T) {
	for _, g := range allGiven() {
		for i, do := range calls() {
			mine := behind(g)
			was := told(mine)
			first, again := do(mine), do(mine)
			if !slices.Equal(told(mine), was) {
				t.Errorf("call %d of %v: what was handed in is %v", i, g, mine)
			}
			want := kept(first)
			if !alike(again, want) {
				t.Errorf("call %d of %v: %v, and then %v", i, g, want, again)
			}
			wipeAnswer(again)
			if !slices.Equal(told(mine), was) {
				t.Errorf("call %d of %v: what is answered shares memory with what was handed in", i, g)
			}
			if !alike(first, want) {
				t.Errorf("call %d of %v: two answers share memory", i, g)
			}
			wipe(mine)
			if !alike(first, want) {
				t.Errorf("call %d of %v: %v is %v now", i, g, want, first)
			}
			if later := do(behind(g)); !alike(later, want) {
				t.Errorf("call %d of %v: %v, and later %v", i, g, want, later)
			}
		}
	}
}

// R3: cells, rows, centroids and the query may share one vector.
func TestSharedVectors(t *testing.T) {
	v := []int32{4, 5}
	c := slices.Repeat([][]int32{v}, maxLists)
	a := laid()
	var l []api.Row
	for slot := range slots {
		a.Cells[slot] = api.Cell{Used: true, Id: uint64(slot), Version: api.Version{Begin: 1, Vec: v}}
		l = append(l, api.Row{Id: uint64(slot), Vec: v})
	}
	p := api.Probe{Query: api.Query{Vec: v, K: 2}, Ts: 1, N: 1}
	nears(t, c, v, 2, []int{0, 1}, api.OK)
	searches(t, a, api.Lists{Centroids: c, Masks: []api.Mask{maskOf(64, 5, 9), maskOf(1), {}, {}, {}, {}}}, p, hits(5, 0, 9, 0), api.OK)
	rows(t, l, c, p, hits(0, 0, 1, 0), api.OK)
	if !slices.Equal(v, []int32{4, 5}) {
		t.Errorf("%v", v)
	}
}

// R5: the same arguments have the same answers, whatever was asked between.
func TestAskedAgain(t *testing.T) {
	all := allGiven()
	var wants []answer
	for _, g := range all {
		for _, do := range calls() {
			wants = append(wants, do(g))
		}
	}
	slices.Reverse(wants)
	slices.Reverse(all)
	for _, g := range all {
		asks := calls()
		slices.Reverse(asks)
		for _, do := range asks {
			if got := do(g); !alike(got, wants[0]) {
				t.Errorf("%v: %v, and then %v", g, wants[0], got)
			}
			wants = wants[1:]
		}
	}
}
