package flat

import (
	"math"
	"slices"
	"testing"

	"quiver/api"
)

// Here stands what the chapter says, once more and as plainly as it does, with what is asked of all calls.

const (
	last  = 1099511627776 // the greatest time of a version
	slots = 96            // how many there are
	most  = 1073741823    // the greatest component
	least = -most
	maxK  = 16
	many  = 2000 // how many rows there are at most
)

func version(begin, end uint64, v ...int32) api.Version {
	return api.Version{Begin: begin, End: end, Vec: v}
}

// cell is a used one.
func cell(id, begin, end uint64, v ...int32) api.Cell {
	return api.Cell{Used: true, Id: id, Version: version(begin, end, v...)}
}

// at is a used cell of which just the Id and the vector matter.
func at(id uint64, v ...int32) api.Cell {
	return cell(id, 1, 0, v...)
}

func row(id uint64, v ...int32) api.Row {
	return api.Row{Id: id, Vec: v}
}

func query(k int, v ...int32) api.Query {
	return api.Query{Vec: v, K: k}
}

// hits are numbers and distances, pair by pair.
func hits(pairs ...uint64) []api.Hit {
	var l []api.Hit
	for i := 0; i < len(pairs); i += 2 {
		l = append(l, api.Hit{Id: pairs[i], Dist: pairs[i+1]})
	}
	return l
}

// laid is an arena with these cells in the first slots.
func laid(l ...api.Cell) api.Arena {
	a := api.Arena{Cells: make([]api.Cell, slots)}
	copy(a.Cells, l)
	return own(a)
}

// with is the arena with another cell in a slot.
func with(a api.Arena, slot int, c api.Cell) api.Arena {
	b := own(a)
	b.Cells[slot] = c
	return own(b)
}

// own is a with memory of its own.
func own(a api.Arena) api.Arena {
	b := api.Arena{Cells: slices.Clone(a.Cells)}
	for i := range b.Cells {
		b.Cells[i].Version.Vec = slices.Clone(b.Cells[i].Version.Vec)
	}
	return b
}

func ownRows(l []api.Row) []api.Row {
	m := slices.Clone(l)
	for i := range m {
		m[i].Vec = slices.Clone(m[i].Vec)
	}
	return m
}

// maskOf has just the bits of these numbers, from 0 to 127.
func maskOf(l ...int) api.Mask {
	var m api.Mask
	for _, n := range l {
		m[n/64] |= 1 << (n % 64)
	}
	return m
}

// spread are numbers from from on, below to, so far apart.
func spread(from, to, apart int) []int {
	var l []int
	for n := from; n < to; n += apart {
		l = append(l, n)
	}
	return l
}

// random answers numbers below a bound that hang on the seed.
func random(seed uint64) func(bound int) int {
	return func(bound int) int {
		seed = seed*6364136223846793005 + 1442695040888963407
		return int(seed >> 33 % uint64(bound))
	}
}

func wordedVec(v []int32) bool {
	tooFar := func(component int32) bool { return component < least || component > most }
	return len(v) >= 1 && len(v) <= 4 && !slices.ContainsFunc(v, tooFar)
}

func wordedCell(c api.Cell) bool {
	v := c.Version
	if !c.Used {
		return c.Id == 0 && v.Begin == 0 && v.End == 0 && len(v.Vec) == 0
	}
	ends := v.End == 0 || v.End > v.Begin && v.End <= last
	return v.Begin >= 1 && v.Begin <= last && ends && wordedVec(v.Vec)
}

func wordedArena(a api.Arena) bool {
	return len(a.Cells) == slots && !slices.ContainsFunc(a.Cells, func(c api.Cell) bool { return !wordedCell(c) })
}

func wordedHas(m api.Mask, slot int) bool {
	return m[slot/64]>>(slot%64)%2 == 1
}

func wordedCheck(q api.Query) api.Errno {
	switch {
	case q.K < 1, q.K > maxK:
		return api.ErrArg
	case !wordedVec(q.Vec):
		return api.ErrVec
	}
	return api.OK
}

func wordedDist(v, w []int32) uint64 {
	sum := uint64(0)
	for i := range v {
		apart := uint64(max(v[i], w[i])) - uint64(min(v[i], w[i]))
		sum += apart * apart
	}
	return sum
}

// wordedFound are the first K hits of the rows: each one's place is how many stand ahead of it.
func wordedFound(l []api.Row, q api.Query) []api.Hit {
	all := make([]api.Hit, len(l))
	for i, r := range l {
		hit, place := api.Hit{Id: r.Id, Dist: wordedDist(r.Vec, q.Vec)}, 0
		for j, s := range l {
			dist := wordedDist(s.Vec, q.Vec)
			if dist < hit.Dist || dist == hit.Dist && (s.Id < r.Id || s.Id == r.Id && j < i) {
				place++
			}
		}
		all[place] = hit
	}
	return all[:min(len(all), q.K)]
}

// wordedIn are the rows of the used cells whose slots are in the mask.
func wordedIn(a api.Arena, m api.Mask) []api.Row {
	var l []api.Row
	for slot := range slots {
		if c := a.Cells[slot]; c.Used && wordedHas(m, slot) {
			l = append(l, row(c.Id, c.Version.Vec...))
		}
	}
	return l
}

func wordedScan(a api.Arena, m api.Mask, q api.Query) ([]api.Hit, api.Errno) {
	if err := wordedCheck(q); err != api.OK {
		return nil, err
	}
	if !wordedArena(a) {
		return nil, api.ErrArena
	}
	l := wordedIn(a, m)
	if slices.ContainsFunc(l, func(r api.Row) bool { return len(r.Vec) != len(q.Vec) }) {
		return nil, api.ErrDim
	}
	return wordedFound(l, q), api.OK
}

func wordedRows(l []api.Row, q api.Query) ([]api.Hit, api.Errno) {
	err := wordedCheck(q)
	switch {
	case err != api.OK:
		return nil, err
	case slices.ContainsFunc(l, func(r api.Row) bool { return !wordedVec(r.Vec) }):
		return nil, api.ErrRow
	case len(l) > many:
		return nil, api.ErrLong
	case slices.ContainsFunc(l, func(r api.Row) bool { return len(r.Vec) != len(q.Vec) }):
		return nil, api.ErrDim
	}
	return wordedFound(l, q), api.OK
}

func wordedVisible(a api.Arena, t uint64) (api.Mask, api.Errno) {
	if !wordedArena(a) {
		return api.Mask{}, api.ErrArena
	}
	var m api.Mask
	for slot, c := range a.Cells {
		begun, ended := c.Version.Begin <= t, c.Version.End != 0 && c.Version.End <= t
		if c.Used && begun && !ended {
			m[slot/64] |= 1 << (slot % 64)
		}
	}
	return m, api.OK
}

// goodVecs are vectors that may be: of each dimension, with the utmost components at each place.
func goodVecs() [][]int32 {
	var l [][]int32
	for dim := 1; dim <= 4; dim++ {
		l = append(l, []int32{7, -8, 9, -10}[:dim], make([]int32, dim))
		for place := range dim {
			for _, component := range []int32{most, least} {
				v := make([]int32, dim)
				v[place] = component
				l = append(l, v)
			}
		}
	}
	return l
}

// badVecs are vectors that may not be: of no components, of too many, and with one beyond the bounds at each place.
func badVecs() [][]int32 {
	l := [][]int32{nil, {}, {1, 2, 3, 4, 5}, make([]int32, 256), make([]int32, 257)}
	for dim := 1; dim <= 4; dim++ {
		for place := range dim {
			for _, component := range []int32{most + 1, least - 1, math.MaxInt32, math.MinInt32} {
				v := make([]int32, dim)
				v[place] = component
				l = append(l, v)
			}
		}
	}
	return l
}

// badKs are those below the least K, and above the greatest one.
func badKs() []int {
	return []int{math.MinInt, math.MinInt + 1, math.MinInt32, -17, -16, -2, -1, 0, 17, 18, 96, 256, 257, 2000, math.MaxInt32, 1 << 32, 1<<32 + 1, math.MaxInt}
}

// edgeSlots are the first and the last ones, and those around the end of a mask's first word.
func edgeSlots() []int {
	return []int{0, 1, 31, 32, 63, 64, 65, 94, 95}
}

// wide is an arena of that dimension in which all slots are used, of some Ids, with vectors of which several are equally far.
func wide(dim int) api.Arena {
	next := random(uint64(dim))
	a := laid()
	for slot := range slots {
		v := make([]int32, dim)
		for i := range v {
			v[i] = int32(next(7) - 3)
		}
		begin := uint64(1 + next(20))
		a.Cells[slot] = cell(uint64(next(40)), begin, uint64(next(2))*(begin+1+uint64(next(20))), v...)
	}
	return a
}

// thinned is the arena in which just the slots of l are used.
func thinned(a api.Arena, l ...int) api.Arena {
	b := laid()
	for _, slot := range l {
		b.Cells[slot] = a.Cells[slot]
	}
	return own(b)
}

// goodArenas are arenas that may be: of each dimension, and of several, with none used, all, one, and some.
func goodArenas() []api.Arena {
	l := []api.Arena{laid()}
	for dim := 1; dim <= 4; dim++ {
		all := wide(dim)
		l = append(l, all, thinned(all, spread(0, slots, 2)...), thinned(all, spread(1, slots, 7)...), thinned(all, spread(0, 10, 1)...), thinned(all, spread(64, slots, 1)...))
		for _, slot := range edgeSlots() {
			l = append(l, thinned(all, slot), with(all, slot, api.Cell{}))
		}
	}
	for _, slot := range edgeSlots() {
		l = append(l, with(wide(2), slot, at(5, 1)), with(thinned(wide(1), 2, 62, 66), slot, at(5, 1, 2, 3)))
	}
	var utmost []api.Cell
	for i, v := range goodVecs() {
		utmost = append(utmost, at([]uint64{0, 1, 1 << 63, math.MaxUint64}[i%4], v...))
	}
	return append(l, laid(utmost...))
}

// badCells are cells that may not be: ones that are not used and have something, and used ones with a version that may not be.
func badCells() []api.Cell {
	l := []api.Cell{
		{Id: 1}, {Id: 7, Version: version(1, 0, 5)}, {Version: version(1, 0)}, {Version: version(0, 1)}, {Version: version(0, 0, 5)},
		cell(7, 0, 0, 5), cell(7, 0, 1, 5), cell(7, 3, 3, 5), cell(7, 3, 2, 5), cell(7, 3, last+1, 5), cell(7, last+1, 0, 5), cell(7, math.MaxUint64, 0, 5),
	}
	for _, v := range badVecs() {
		l = append(l, cell(7, 3, 0, v...))
	}
	return l
}

// badArenas are arenas that may not be: of another number of cells, and with one cell, at each of some slots, that has one fault.
func badArenas() []api.Arena {
	l := []api.Arena{{}, {Cells: []api.Cell{}}}
	for _, n := range []int{1, 64, slots - 1, slots + 1, 2 * slots, 256, 256 + slots, 5000} {
		l = append(l, api.Arena{Cells: make([]api.Cell, n)}, api.Arena{Cells: slices.Repeat([]api.Cell{at(7, 5)}, n)})
	}
	for _, slot := range edgeSlots() {
		for _, c := range badCells() {
			l = append(l, with(laid(), slot, c), with(wide(1), slot, c))
		}
	}
	return l
}

// masks are some of all kinds: of no slot, of all, of one, of some, and with the other bits, alone and with slots besides.
func masks() []api.Mask {
	all := maskOf(spread(0, slots, 1)...)
	l := []api.Mask{{}, all, maskOf(spread(0, slots, 2)...), maskOf(spread(1, slots, 2)...), maskOf(spread(0, 64, 1)...), maskOf(spread(64, slots, 1)...), maskOf(spread(3, slots, 11)...)}
	for _, slot := range edgeSlots() {
		others := all
		others[slot/64] &^= 1 << (slot % 64)
		l = append(l, maskOf(slot), others)
	}
	for _, m := range slices.Clone(l) {
		for _, other := range [][]int{{96}, {127}, {96, 100, 127}, spread(slots, 128, 1)} {
			l = append(l, api.Mask{m[0], m[1] | maskOf(other...)[1]})
		}
	}
	return l
}

// queries are some of each dimension, with the least K, the greatest one, and others.
func queries() []api.Query {
	var l []api.Query
	for i, v := range goodVecs() {
		l = append(l, query([]int{1, maxK, 2, 5, maxK - 1}[i%5], v...))
	}
	return append(l, query(1, 0), query(maxK, 0), query(maxK, 1, -1), query(3, 2, 0, 1), query(maxK, 0, 0, 0, 1))
}

// answers holds hits that are answered, and the error, against what has to come of a call.
func answers(t *testing.T, got []api.Hit, err api.Errno, want []api.Hit, wantErr api.Errno, call ...any) {
	t.Helper()
	if err != wantErr || !slices.Equal(got, want) {
		t.Errorf("%v: %v, %d, not %v, %d", call, got, err, want, wantErr)
	}
}

// scans holds what Scan answers.
func scans(t *testing.T, a api.Arena, m api.Mask, q api.Query, want []api.Hit, wantErr api.Errno) {
	t.Helper()
	got, err := Scan(a, m, q)
	answers(t, got, err, want, wantErr, "Scan", a, m, q)
}

// rows holds what Rows answers.
func rows(t *testing.T, l []api.Row, q api.Query, want []api.Hit, wantErr api.Errno) {
	t.Helper()
	got, err := Rows(l, q)
	answers(t, got, err, want, wantErr, "Rows", len(l), l[:min(len(l), 100)], q)
}

// sees holds what Visible answers.
func sees(t *testing.T, a api.Arena, at uint64, want api.Mask, wantErr api.Errno) {
	t.Helper()
	if got, err := Visible(a, at); got != want || err != wantErr {
		t.Errorf("Visible(%v, %d): %v, %d, not %v, %d", a, at, got, err, want, wantErr)
	}
}
