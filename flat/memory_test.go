package flat

import (
	"slices"
	"testing"

	"quiver/api"
)

// given is all that is handed in to one call or another.
type given struct {
	arena api.Arena
	mask  api.Mask
	rows  []api.Row
	query api.Query
	ts    uint64
}

// roomy is v with room behind its end in which something stands.
func roomy(v []int32) []int32 {
	return slices.Concat(v, []int32{99, 98, 97})[:len(v)]
}

// behind is g with memory of its own, and with room behind each end in which something stands.
func behind(g given) given {
	cells := slices.Concat(g.arena.Cells, []api.Cell{at(9, 9), at(8, 8)})
	for i := range cells {
		cells[i].Version.Vec = roomy(cells[i].Version.Vec)
	}
	l := slices.Concat(g.rows, []api.Row{row(9, 9), row(8, 8)})
	for i := range l {
		l[i].Vec = roomy(l[i].Vec)
	}
	g.arena.Cells, g.rows, g.query.Vec = cells[:len(g.arena.Cells)], l[:len(g.rows)], roomy(g.query.Vec)
	return g
}

// told are all numbers that stand in what behind made, in the room behind its ends too.
func told(g given) []uint64 {
	l := []uint64{uint64(len(g.arena.Cells)), uint64(len(g.rows)), uint64(g.query.K)}
	vec := func(v []int32) {
		l = append(l, uint64(len(v)))
		for _, component := range v[:len(v)+3] {
			l = append(l, uint64(component))
		}
	}
	for _, c := range g.arena.Cells[:len(g.arena.Cells)+2] {
		l = append(l, c.Id, c.Version.Begin, c.Version.End)
		if c.Used {
			l = append(l, 1)
		}
		vec(c.Version.Vec)
	}
	for _, r := range g.rows[:len(g.rows)+2] {
		l = append(l, r.Id)
		vec(r.Vec)
	}
	vec(g.query.Vec)
	return l
}

// wipe sets all that stands in what behind made, and behind its ends, to another thing.
func wipe(g given) {
	vec := func(v []int32) {
		v = v[:len(v)+3]
		for i := range v {
			v[i] = -555
		}
	}
	cells, l := g.arena.Cells[:len(g.arena.Cells)+2], g.rows[:len(g.rows)+2]
	for i := range cells {
		vec(cells[i].Version.Vec)
		cells[i] = at(12345, 7)
	}
	for i := range l {
		vec(l[i].Vec)
		l[i] = row(54321, 7)
	}
	vec(g.query.Vec)
}

// calls are all of them; each answers the hits that are answered, or what else is told as such.
func calls() []func(g given) []api.Hit {
	return []func(g given) []api.Hit{
		func(g given) []api.Hit {
			l, err := Scan(g.arena, g.mask, g.query)
			if err != api.OK {
				return append(l, api.Hit{Id: uint64(err), Dist: 1 << 63})
			}
			return l
		},
		func(g given) []api.Hit {
			l, err := Rows(g.rows, g.query)
			if err != api.OK {
				return append(l, api.Hit{Id: uint64(err), Dist: 1 << 63})
			}
			return l
		},
		func(g given) []api.Hit {
			m, err := Visible(g.arena, g.ts)
			return []api.Hit{{Id: m[0], Dist: m[1]}, {Id: uint64(err)}}
		},
		func(g given) []api.Hit {
			return []api.Hit{{Id: uint64(Check(g.query))}}
		},
	}
}

// allGiven are arguments of all kinds: that may be and that may not.
func allGiven() []given {
	everything := maskOf(spread(0, slots, 1)...)
	var l []given
	for _, a := range []api.Arena{laid(), wide(1), wide(2), thinned(wide(1), 0, 5, 63, 64, 95), with(wide(1), 5, cell(7, 0, 0, 5)), {}} {
		for _, m := range []api.Mask{{}, everything, maskOf(5, 63, 64), maskOf(spread(0, 128, 1)...)} {
			for _, q := range []api.Query{query(3, 1), query(maxK, 0), query(5, 1, 2), query(0, 1), query(1)} {
				l = append(l, given{a, m, wordedIn(wide(1), m), q, 9}, given{a, m, slices.Concat(wordedIn(wide(2), m), []api.Row{row(5)}), q, 1 << 50})
			}
		}
	}
	return append(l, given{laid(), everything, numbered(many), query(maxK, 1000), 1}, given{laid(), everything, numbered(many + 1), query(1, 1000), 1}, given{})
}

// R3, R5: what is handed in stays as it is, the room behind its ends too, and is not kept; what is answered is new memory, each time the same.
func TestMemory(t *testing.T) {
	for _, g := range allGiven() {
		for i, do := range calls() {
			mine := behind(g)
			was := told(mine)
			first, again := do(mine), do(mine)
			if !slices.Equal(told(mine), was) {
				t.Errorf("call %d of %v: what was handed in is %v", i, g, mine)
			}
			want := slices.Clone(first)
			if !slices.Equal(again, want) {
				t.Errorf("call %d of %v: %v, and then %v", i, g, want, again)
			}
			wipe(mine)
			again = again[:cap(again)]
			for j := range again {
				again[j] = api.Hit{Id: 555, Dist: 555}
			}
			if !slices.Equal(first, want) {
				t.Errorf("call %d of %v: %v is %v now", i, g, want, first)
			}
			if later := do(behind(g)); !slices.Equal(later, want) {
				t.Errorf("call %d of %v: %v, and later %v", i, g, want, later)
			}
		}
	}
}

// R3: cells, rows and the query may share one vector.
func TestSharedVectors(t *testing.T) {
	v := []int32{4, 5}
	a := laid()
	var l []api.Row
	for slot := range slots {
		a.Cells[slot] = api.Cell{Used: true, Id: uint64(slot), Version: api.Version{Begin: 1, Vec: v}}
		l = append(l, api.Row{Id: uint64(slot), Vec: v})
	}
	q := api.Query{Vec: v, K: 2}
	scans(t, a, maskOf(64, 5, 9), q, hits(5, 0, 9, 0), api.OK)
	rows(t, l, q, hits(0, 0, 1, 0), api.OK)
	if !slices.Equal(v, []int32{4, 5}) {
		t.Errorf("%v", v)
	}
}

// R5: the same arguments have the same answers, whatever was asked between.
func TestAskedAgain(t *testing.T) {
	all := allGiven()
	var wants [][]api.Hit
	for _, g := range all {
		for _, do := range calls() {
			wants = append(wants, do(g))
		}
	}
	slices.Reverse(wants)
	for i := len(all) - 1; i >= 0; i-- {
		asks := calls()
		for j := len(asks) - 1; j >= 0; j-- {
			if got := asks[j](all[i]); !slices.Equal(got, wants[0]) {
				t.Errorf("call %d of %v: %v, and then %v", j, all[i], wants[0], got)
			}
			wants = wants[1:]
		}
	}
}
