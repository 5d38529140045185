package writes

import (
	"slices"
	"testing"

	"quiver/api"
)

// given is all that is handed in to one call or another.
type given struct {
	l, other []api.Write
	rows     []api.Row
	k        api.Write
	r        api.Row
	there    bool
}

// answer is what a call answers.
type answer struct {
	l    []api.Write
	rows []api.Row
	ok   bool
	err  api.Errno
}

// roomy is v with room behind its end in which something stands.
func roomy(v []int32) []int32 {
	return slices.Concat(v, []int32{99, 98, 97})[:len(v)]
}

func roomyWrites(l []api.Write) []api.Write {
	all := slices.Concat(l, []api.Write{put(2, 95, 9), put(2, 96, 8)})
	for i := range all {
		all[i].Vec = roomy(all[i].Vec)
	}
	return all[:len(l)]
}

func roomyRows(l []api.Row) []api.Row {
	all := slices.Concat(l, rowsOf(95, 9, 96, 8))
	for i := range all {
		all[i].Vec = roomy(all[i].Vec)
	}
	return all[:len(l)]
}

// behind is g with memory of its own, and with room behind each end in which something stands.
func behind(g given) given {
	g.l, g.other, g.rows = roomyWrites(g.l), roomyWrites(g.other), roomyRows(g.rows)
	g.k.Vec, g.r.Vec = roomy(g.k.Vec), roomy(g.r.Vec)
	return g
}

// told are all numbers that stand in what behind made, in the room behind its ends too.
func told(g given) []uint64 {
	l := []uint64{uint64(len(g.l)), uint64(len(g.other)), uint64(len(g.rows))}
	number := func(n uint64, v []int32) {
		l = append(l, n, uint64(len(v)))
		for _, component := range v[:len(v)+3] {
			l = append(l, uint64(component))
		}
	}
	for _, w := range slices.Concat(g.l[:len(g.l)+2], g.other[:len(g.other)+2], []api.Write{g.k}) {
		number(w.Id, w.Vec)
		l = append(l, uint64(w.Coll))
		if w.Gone {
			l = append(l, 1)
		}
	}
	for _, r := range append(slices.Clone(g.rows[:len(g.rows)+2]), g.r) {
		number(r.Id, r.Vec)
	}
	return l
}

// fill sets all that stands in l, and in the room behind its end, to another thing.
func fill[T any](l []T, x T) {
	l = l[:cap(l)]
	for i := range l {
		l[i] = x
	}
}

func wipeWrites(l []api.Write) {
	for _, w := range l[:cap(l)] {
		fill(w.Vec, -555)
	}
	fill(l, put(1, 555, -555))
}

func wipeRows(l []api.Row) {
	for _, r := range l[:cap(l)] {
		fill(r.Vec, -555)
	}
	fill(l, row(555, -555))
}

func wipeGiven(g given) {
	wipeWrites(g.l)
	wipeWrites(g.other)
	wipeRows(g.rows)
	fill(g.k.Vec, -555)
	fill(g.r.Vec, -555)
}

func wipeAnswer(x answer) {
	wipeWrites(x.l)
	wipeRows(x.rows)
}

// kept is the answer in memory of its own.
func kept(x answer) answer {
	x.l, x.rows = ownWrites(x.l), ownRows(x.rows)
	return x
}

func alike(x, y answer) bool {
	return wordedSame(x.l, y.l) && wordedSameRows(x.rows, y.rows) && x.ok == y.ok && x.err == y.err
}

// calls are all of them.
func calls() []func(g given) answer {
	return []func(g given) answer{
		func(g given) answer { return answer{err: Check(g.l)} },
		func(g given) answer { return answer{ok: Same(g.l, g.other)} },
		func(g given) answer {
			l, err := Put(g.l, g.k.Coll, g.r)
			return answer{l: l, err: err}
		},
		func(g given) answer {
			l, err := Del(g.l, g.k, g.there)
			return answer{l: l, err: err}
		},
		func(g given) answer {
			w, ok := Find(g.l, g.k.Coll, g.k.Id)
			return answer{l: []api.Write{w}, ok: ok}
		},
		func(g given) answer { return answer{l: Of(g.l, g.k.Coll)} },
		func(g given) answer {
			rows, err := Overlay(g.l, g.k.Coll, g.rows)
			return answer{rows: rows, err: err}
		},
	}
}

// allGiven are arguments of all kinds: that may be and that may not.
func allGiven() []given {
	rows, badOnes := goodRows(), badRows()
	bad := badLists()
	lists := slices.Concat(goodLists(), bad[:40], bad[len(bad)-30:])
	var all []given
	for i, l := range lists {
		k, v := put(i%4, uint64(i%12), 4, 5), goodVecs()[i%24]
		all = append(all,
			given{l, ownWrites(l), rows[i%len(rows)], k, row(k.Id, v...), i%2 == 0},
			given{l, lists[i*7%len(lists)], rows[i*3%len(rows)], gone(i%colls, uint64(i%20*5)), row(uint64(i%20*5), badVecs()[i%10]...), i%3 == 0},
			given{l, nil, badOnes[i*5%len(badOnes)], gone(0, greatest), row(greatest, v...), true},
		)
		if len(l) > 0 {
			w := l[i%len(l)]
			all = append(all, given{l, l[:len(l)-1], []api.Row{row(w.Id, 5, 6)}, w, row(w.Id, v...), true}, given{l, l, nil, w, row(w.Id, w.Vec...), false})
		}
	}
	return append(all, given{})
}

// R3, R5: what is handed in stays as it is, the room behind its ends too, and is not kept; what is answered is new memory, each time the same.
func TestMemory(t *testing.T) {
	for _, g := range allGiven() {
		for i, do := range calls() {
			mine := behind(g)
			was := told(mine)
			first, again := do(mine), do(mine)
			if !slices.Equal(told(mine), was) {
				t.Errorf("call %d of %v: what was handed in is %v", i, g, mine)
			}
			want := kept(first)
			if !alike(again, want) {
				t.Errorf("call %d of %v: %v, and then %v", i, g, want, again)
			}
			wipeAnswer(again)
			if !slices.Equal(told(mine), was) {
				t.Errorf("call %d of %v: what is answered shares memory with what was handed in", i, g)
			}
			if !alike(first, want) {
				t.Errorf("call %d of %v: two answers share memory", i, g)
			}
			wipeGiven(mine)
			if !alike(first, want) {
				t.Errorf("call %d of %v: %v is %v now", i, g, want, first)
			}
			if later := do(behind(g)); !alike(later, want) {
				t.Errorf("call %d of %v: %v, and later %v", i, g, want, later)
			}
		}
	}
}

// R3: no two vectors of one answer share memory, nor the room behind their ends.
func TestAnswersApart(t *testing.T) {
	for _, g := range allGiven() {
		for i, do := range calls() {
			x := do(behind(g))
			for place, w := range x.l {
				others := kept(x)
				fill(w.Vec, -777)
				others.l[place].Vec = slices.Clone(w.Vec)
				if !alike(x, others) {
					t.Errorf("call %d of %v: the vector at %d shares memory with another", i, g, place)
				}
			}
			for place, r := range x.rows {
				others := kept(x)
				fill(r.Vec, -777)
				others.rows[place].Vec = slices.Clone(r.Vec)
				if !alike(x, others) {
					t.Errorf("call %d of %v: the vector at %d shares memory with another", i, g, place)
				}
			}
		}
	}
}

// R3: vectors of writes and rows that are handed in may share memory; those that are answered do not.
func TestSharedVectors(t *testing.T) {
	v := []int32{4, 5}
	l := []api.Write{put(0, 3, v...), put(0, 5, v...), put(0, 7, v...)}
	for i := range l {
		l[i].Vec = v
	}
	rows := []api.Row{{Id: 2, Vec: v}, {Id: 5, Vec: v}, {Id: 9, Vec: v}}
	added, err := Put(l, 0, api.Row{Id: 4, Vec: v})
	comes(t, added, err, []api.Write{put(0, 3, 4, 5), put(0, 4, 4, 5), put(0, 5, 4, 5), put(0, 7, 4, 5)}, api.OK, "Put")
	left, err := Del(l, l[1], false)
	comes(t, left, err, []api.Write{put(0, 3, 4, 5), put(0, 7, 4, 5)}, api.OK, "Del")
	isGone, err := Del(l, l[1], true)
	comes(t, isGone, err, []api.Write{put(0, 3, 4, 5), gone(0, 5), put(0, 7, 4, 5)}, api.OK, "Del")
	seen, err := Overlay(l, 0, rows)
	if err != api.OK || !wordedSameRows(seen, []api.Row{row(2, 4, 5), row(3, 4, 5), row(5, 4, 5), row(7, 4, 5), row(9, 4, 5)}) {
		t.Errorf("Overlay: %v, %d", seen, err)
	}
	for _, answered := range [][]api.Write{added, left, isGone, Of(l, 0)} {
		for _, w := range answered {
			fill(w.Vec, -1)
		}
	}
	for _, r := range seen {
		fill(r.Vec, -1)
	}
	found, _ := Find(l, 0, 5)
	fill(found.Vec, -1)
	if !slices.Equal(v, []int32{4, 5}) {
		t.Errorf("%v", v)
	}
}

// R3: a write that is Gone has no vector in what is answered, be it handed in as nil or as empty; a write that is not there is zero.
func TestGoneWithoutVector(t *testing.T) {
	empty := api.Write{Coll: 1, Id: 5, Gone: true, Vec: []int32{}}
	put1, _ := Put([]api.Write{empty}, 1, row(6, 7))
	del1, _ := Del([]api.Write{empty}, api.Write{Coll: 1, Id: 6, Vec: []int32{8}}, true)
	found, _ := Find([]api.Write{empty}, 1, 5)
	for _, l := range [][]api.Write{put1[:1], del1, {found}, Of([]api.Write{empty}, 1)} {
		for _, w := range l {
			if !w.Gone || len(w.Vec) > 0 {
				t.Errorf("%v", l)
			}
		}
	}
	if w, ok := Find([]api.Write{empty}, 1, 6); ok || w.Vec != nil || !wordedSameWrite(w, api.Write{}) {
		t.Errorf("%v, %v", w, ok)
	}
}

// R5: the same arguments have the same answers, whatever was asked between.
func TestAskedAgain(t *testing.T) {
	all := allGiven()
	var wants []answer
	for _, g := range all {
		for _, do := range calls() {
			wants = append(wants, do(g))
		}
	}
	slices.Reverse(wants)
	slices.Reverse(all)
	asks := calls()
	slices.Reverse(asks)
	for _, g := range all {
		for _, do := range asks {
			if got := do(g); !alike(got, wants[0]) {
				t.Errorf("%v: %v, and then %v", g, wants[0], got)
			}
			wants = wants[1:]
		}
	}
}
