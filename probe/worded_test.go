package probe

import (
	"math"
	"slices"
	"testing"

	"quiver/api"
)

// Here stands what the chapter says, once more and as plainly as it does, with what is asked of all calls.

const (
	maxLists = 6             // how many centroids there are at most
	maxProbe = 1048576       // how many lists are asked for at most
	slots    = 96            // how many there are
	last     = 1099511627776 // the greatest time of a version
	most     = 1073741823    // the greatest component
	least    = -most
	maxK     = 16
	many     = 2000 // how many rows belong at most
)

// probing is a probe of the n nearest lists, as of ts.
func probing(k, n int, ts uint64, v ...int32) api.Probe {
	return api.Probe{Query: api.Query{Vec: v, K: k}, Ts: ts, N: n}
}

// ones are vectors of one component.
func ones(components ...int32) [][]int32 {
	var l [][]int32
	for _, component := range components {
		l = append(l, []int32{component})
	}
	return l
}

// own is c with memory of its own.
func own(c [][]int32) [][]int32 {
	m := slices.Clone(c)
	for i := range m {
		m[i] = slices.Clone(m[i])
	}
	return m
}

// with is c with another vector at a place.
func with(c [][]int32, place int, v ...int32) [][]int32 {
	m := own(c)
	m[place] = v
	return m
}

// filled are n vectors that have just this component.
func filled(n, dim int, component int32) [][]int32 {
	return own(slices.Repeat([][]int32{slices.Repeat([]int32{component}, dim)}, n))
}

// random answers numbers below a bound that hang on the seed.
func random(seed uint64) func(bound int) int {
	return func(bound int) int {
		seed = seed*6364136223846793005 + 1442695040888963407
		return int(seed >> 33 % uint64(bound))
	}
}

// scattered are n vectors whose components are from -wide to wide.
func scattered(seed uint64, n, dim, wide int) [][]int32 {
	next := random(seed)
	l := filled(n, dim, 0)
	for _, v := range l {
		for i := range v {
			v[i] = int32(next(2*wide+1) - wide)
		}
	}
	return l
}

// maskOf has just the bits of these numbers, from 0 to 127.
func maskOf(l ...int) api.Mask {
	var m api.Mask
	for _, n := range l {
		m[n/64] |= 1 << (n % 64)
	}
	return m
}

// spread are numbers from from on, below to, so far apart.
func spread(from, to, apart int) []int {
	var l []int
	for n := from; n < to; n += apart {
		l = append(l, n)
	}
	return l
}

// listed are lists of these centroids, each with the slots that stand at its place; what stands at none has none.
func listed(c [][]int32, in ...[]int) api.Lists {
	l := api.Lists{Centroids: own(c), Masks: make([]api.Mask, len(c))}
	for place, slots := range in {
		l.Masks[place] = maskOf(slots...)
	}
	return l
}

// ownLists is l with memory of its own.
func ownLists(l api.Lists) api.Lists {
	return api.Lists{Centroids: own(l.Centroids), Masks: slices.Clone(l.Masks)}
}

// masked is l with another mask at a place.
func masked(l api.Lists, place int, m api.Mask) api.Lists {
	l = ownLists(l)
	l.Masks[place] = m
	return l
}

// cell is a used one.
func cell(id, begin, end uint64, v ...int32) api.Cell {
	return api.Cell{Used: true, Id: id, Version: api.Version{Begin: begin, End: end, Vec: v}}
}

// at is a used cell whose version is visible from 1 on.
func at(id uint64, v ...int32) api.Cell {
	return cell(id, 1, 0, v...)
}

// laid is an arena with these cells in the first slots.
func laid(l ...api.Cell) api.Arena {
	a := api.Arena{Cells: make([]api.Cell, slots)}
	copy(a.Cells, l)
	return ownArena(a)
}

// put is the arena with another cell in a slot.
func put(a api.Arena, slot int, c api.Cell) api.Arena {
	b := ownArena(a)
	b.Cells[slot] = c
	return ownArena(b)
}

// ownArena is a with memory of its own.
func ownArena(a api.Arena) api.Arena {
	b := api.Arena{Cells: slices.Clone(a.Cells)}
	for i := range b.Cells {
		b.Cells[i].Version.Vec = slices.Clone(b.Cells[i].Version.Vec)
	}
	return b
}

// thinned is the arena in which just the slots of l are used.
func thinned(a api.Arena, l ...int) api.Arena {
	b := laid()
	for _, slot := range l {
		b.Cells[slot] = a.Cells[slot]
	}
	return ownArena(b)
}

func row(id uint64, v ...int32) api.Row {
	return api.Row{Id: id, Vec: v}
}

// withRow is l with another row at a place.
func withRow(l []api.Row, place int, r api.Row) []api.Row {
	m := slices.Clone(l)
	m[place] = r
	return m
}

// hits are numbers and distances, pair by pair.
func hits(pairs ...uint64) []api.Hit {
	var l []api.Hit
	for i := 0; i < len(pairs); i += 2 {
		l = append(l, api.Hit{Id: pairs[i], Dist: pairs[i+1]})
	}
	return l
}

func wordedVec(v []int32) bool {
	tooFar := func(component int32) bool { return component < least || component > most }
	return len(v) >= 1 && len(v) <= 4 && !slices.ContainsFunc(v, tooFar)
}

func wordedCell(c api.Cell) bool {
	v := c.Version
	if !c.Used {
		return c.Id == 0 && v.Begin == 0 && v.End == 0 && len(v.Vec) == 0
	}
	ends := v.End == 0 || v.End > v.Begin && v.End <= last
	return v.Begin >= 1 && v.Begin <= last && ends && wordedVec(v.Vec)
}

func wordedArena(a api.Arena) bool {
	return len(a.Cells) == slots && !slices.ContainsFunc(a.Cells, func(c api.Cell) bool { return !wordedCell(c) })
}

func wordedHas(m api.Mask, slot int) bool {
	return m[slot/64]>>(slot%64)%2 == 1
}

func wordedCentroids(c [][]int32) bool {
	if len(c) > maxLists {
		return false
	}
	for _, v := range c {
		if !wordedVec(v) || len(v) != len(c[0]) {
			return false
		}
	}
	return true
}

func wordedLists(l api.Lists) bool {
	if !wordedCentroids(l.Centroids) || len(l.Masks) != len(l.Centroids) {
		return false
	}
	for i, m := range l.Masks {
		if m[1]>>32 != 0 {
			return false
		}
		for j := range i {
			if m[0]&l.Masks[j][0] != 0 || m[1]&l.Masks[j][1] != 0 {
				return false
			}
		}
	}
	return true
}

func wordedDist(v, w []int32) uint64 {
	sum := uint64(0)
	for i := range v {
		apart := uint64(int64(max(v[i], w[i])) - int64(min(v[i], w[i])))
		sum += apart * apart
	}
	return sum
}

// wordedPlaces are the first n: each one's place among them is how many stand ahead of it.
func wordedPlaces(c [][]int32, v []int32, n int) []int {
	all := make([]int, len(c))
	for i := range c {
		ahead := 0
		for j := range c {
			x, y := wordedDist(c[i], v), wordedDist(c[j], v)
			if y < x || y == x && j < i {
				ahead++
			}
		}
		all[ahead] = i
	}
	return all[:min(n, len(all))]
}

// wordedFound are the first k hits of the rows: each one's place is how many stand ahead of it.
func wordedFound(l []api.Row, q api.Query) []api.Hit {
	all := make([]api.Hit, len(l))
	for i, r := range l {
		all[i] = api.Hit{Id: r.Id, Dist: wordedDist(r.Vec, q.Vec)}
	}
	found := make([]api.Hit, len(l))
	for i, x := range all {
		ahead := 0
		for j, y := range all {
			if y.Dist < x.Dist || y.Dist == x.Dist && (y.Id < x.Id || y.Id == x.Id && j < i) {
				ahead++
			}
		}
		found[ahead] = x
	}
	return found[:min(len(found), q.K)]
}

// wordedVisible are the slots whose cells are used, and visible at ts.
func wordedVisible(a api.Arena, ts uint64) []int {
	var l []int
	for slot, c := range a.Cells {
		begun, ended := c.Version.Begin <= ts, c.Version.End != 0 && c.Version.End <= ts
		if c.Used && begun && !ended {
			l = append(l, slot)
		}
	}
	return l
}

// rowsAt are the rows of the cells in these slots.
func rowsAt(a api.Arena, in []int) []api.Row {
	var l []api.Row
	for _, slot := range in {
		l = append(l, row(a.Cells[slot].Id, a.Cells[slot].Version.Vec...))
	}
	return l
}

func wordedCheck(p api.Probe) api.Errno {
	switch {
	case p.Query.K < 1, p.Query.K > maxK, p.N < 1, p.N > maxProbe:
		return api.ErrArg
	case !wordedVec(p.Query.Vec):
		return api.ErrVec
	}
	return api.OK
}

func wordedNearest(c [][]int32, v []int32, n int) ([]int, api.Errno) {
	switch {
	case n < 1, n > maxProbe:
		return nil, api.ErrArg
	case !wordedVec(v):
		return nil, api.ErrVec
	case len(c) == 0:
		return nil, api.ErrUntrained
	case !wordedCentroids(c):
		return nil, api.ErrLists
	case len(c[0]) != len(v):
		return nil, api.ErrDim
	}
	return wordedPlaces(c, v, n), api.OK
}

// wordedLooked are the slots that are looked at.
func wordedLooked(a api.Arena, l api.Lists, p api.Probe) []int {
	var in []int
	for _, slot := range wordedVisible(a, p.Ts) {
		for _, place := range wordedPlaces(l.Centroids, p.Query.Vec, p.N) {
			if wordedHas(l.Masks[place], slot) {
				in = append(in, slot)
			}
		}
	}
	return in
}

func wordedSearch(a api.Arena, l api.Lists, p api.Probe) ([]api.Hit, api.Errno) {
	err := wordedCheck(p)
	switch {
	case err != api.OK:
		return nil, err
	case !wordedLists(l):
		return nil, api.ErrLists
	case !wordedArena(a):
		return nil, api.ErrArena
	case len(l.Centroids) == 0:
		return nil, api.ErrUntrained
	case len(l.Centroids[0]) != len(p.Query.Vec):
		return nil, api.ErrDim
	}
	found := rowsAt(a, wordedLooked(a, l, p))
	if slices.ContainsFunc(found, func(r api.Row) bool { return len(r.Vec) != len(p.Query.Vec) }) {
		return nil, api.ErrDim
	}
	return wordedFound(found, p.Query), api.OK
}

// wordedOwn are the rows whose vectors belong to one of the nearest ones.
func wordedOwn(l []api.Row, c [][]int32, p api.Probe) []api.Row {
	near := wordedPlaces(c, p.Query.Vec, p.N)
	var found []api.Row
	for _, r := range l {
		if slices.Contains(near, wordedPlaces(c, r.Vec, 1)[0]) {
			found = append(found, r)
		}
	}
	return found
}

func wordedRows(l []api.Row, c [][]int32, p api.Probe) ([]api.Hit, api.Errno) {
	err := wordedCheck(p)
	unlike := func(r api.Row) bool { return len(r.Vec) != len(p.Query.Vec) }
	switch {
	case err != api.OK:
		return nil, err
	case len(c) == 0:
		return nil, api.ErrUntrained
	case !wordedCentroids(c):
		return nil, api.ErrLists
	case slices.ContainsFunc(l, func(r api.Row) bool { return !wordedVec(r.Vec) }):
		return nil, api.ErrRow
	case len(c[0]) != len(p.Query.Vec), slices.ContainsFunc(l, unlike):
		return nil, api.ErrDim
	}
	found := wordedOwn(l, c, p)
	if len(found) > many {
		return nil, api.ErrLong
	}
	return wordedFound(found, p.Query), api.OK
}

// wordedBuild are the lists of these centroids that agree with an arena, all of whose vectors have their dimension.
func wordedBuild(a api.Arena, c [][]int32) api.Lists {
	in := make([][]int, len(c))
	for slot, x := range a.Cells {
		if x.Used {
			place := wordedPlaces(c, x.Version.Vec, 1)[0]
			in[place] = append(in[place], slot)
		}
	}
	return listed(c, in...)
}

// checks holds what Check answers.
func checks(t *testing.T, p api.Probe, want api.Errno) {
	t.Helper()
	if err := Check(p); err != want {
		t.Errorf("Check(%v): %d, not %d", p, err, want)
	}
}

// nears holds what Nearest answers.
func nears(t *testing.T, c [][]int32, v []int32, n int, want []int, wantErr api.Errno) {
	t.Helper()
	if got, err := Nearest(c, v, n); err != wantErr || !slices.Equal(got, want) {
		t.Errorf("Nearest(%d: %v, %v, %d): %v, %d, not %v, %d", len(c), c[:min(len(c), 9)], v, n, got, err, want, wantErr)
	}
}

// used are the used cells, by their slots.
func used(a api.Arena) map[int]api.Cell {
	l := map[int]api.Cell{}
	for slot, c := range a.Cells {
		if c.Used {
			l[slot] = c
		}
	}
	return l
}

// searches holds what Search answers.
func searches(t *testing.T, a api.Arena, l api.Lists, p api.Probe, want []api.Hit, wantErr api.Errno) {
	t.Helper()
	if got, err := Search(a, l, p); err != wantErr || !slices.Equal(got, want) {
		t.Errorf("Search(%d cells, of which %v, %v, %v): %v, %d, not %v, %d", len(a.Cells), used(a), l, p, got, err, want, wantErr)
	}
}

// rows holds what Rows answers.
func rows(t *testing.T, l []api.Row, c [][]int32, p api.Probe, want []api.Hit, wantErr api.Errno) {
	t.Helper()
	if got, err := Rows(l, c, p); err != wantErr || !slices.Equal(got, want) {
		t.Errorf("Rows(%d: %v, %v, %v): %v, %d, not %v, %d", len(l), l[:min(len(l), 100)], c[:min(len(c), 9)], p, got, err, want, wantErr)
	}
}

// goodVecs are vectors that may be: of each dimension, with the utmost components at each place.
func goodVecs() [][]int32 {
	var l [][]int32
	for dim := 1; dim <= 4; dim++ {
		l = append(l, []int32{7, -8, 9, -10}[:dim], make([]int32, dim), filled(1, dim, most)[0], filled(1, dim, least)[0])
		for place := range dim {
			for _, component := range []int32{most, least} {
				v := make([]int32, dim)
				v[place] = component
				l = append(l, v)
			}
		}
	}
	return l
}

// badVecs are vectors that may not be: of no components, of too many, and with one beyond the bounds at each place.
func badVecs() [][]int32 {
	l := [][]int32{nil, {}, {1, 2, 3, 4, 5}, make([]int32, 256), make([]int32, 257)}
	for dim := 1; dim <= 4; dim++ {
		for place := range dim {
			for _, component := range []int32{most + 1, least - 1, math.MaxInt32, math.MinInt32} {
				v := make([]int32, dim)
				v[place] = component
				l = append(l, v)
			}
		}
	}
	return l
}

// fewBadVecs are one of each kind.
func fewBadVecs() [][]int32 {
	return [][]int32{nil, {}, {1, 2, 3, 4, 5}, {most + 1}, {5, least - 1}}
}

// badKs are those below the least K, and above the greatest one.
func badKs() []int {
	return []int{math.MinInt, math.MinInt + 1, math.MinInt32, -17, -16, -2, -1, 0, 17, 18, 96, 256, 257, 2000, math.MaxInt32, 1 << 32, 1<<32 + 1, math.MaxInt}
}

// goodNs are some from the least N to the greatest one.
func goodNs() []int {
	return []int{1, 2, 3, 4, 5, 6, 7, 8, 96, 255, 256, 65535, 65536, maxProbe - 1, maxProbe}
}

// badNs are those below the least N, and above the greatest one.
func badNs() []int {
	return []int{math.MinInt, math.MinInt + 1, math.MinInt32, -maxProbe, -2, -1, 0, maxProbe + 1, maxProbe + 2, 2 * maxProbe, math.MaxInt32, 1 << 32, 1<<32 + 1, math.MaxInt - 1, math.MaxInt}
}

// edgeSlots are the first and the last ones, and those around the end of a mask's first word.
func edgeSlots() []int {
	return []int{0, 1, 31, 32, 63, 64, 65, 94, 95}
}

// edgeTimes are those at the ends of what a time may be, and beyond.
func edgeTimes() []uint64 {
	return []uint64{0, 1, 2, last - 1, last, last + 1, 1 << 63, math.MaxUint64}
}

// other is the vector 0 of another dimension.
func other(dim int) []int32 {
	return make([]int32, dim%4+1)
}

// goodCentroids are some that may be, all of that dimension: one to all, all the same, some equal, near, and far from everything.
func goodCentroids(dim int) [][][]int32 {
	l := [][][]int32{
		filled(1, dim, 0), filled(maxLists, dim, 0), filled(2, dim, most), filled(maxLists, dim, least),
		append(filled(1, dim, least), filled(2, dim, most)...), append(filled(2, dim, 1), filled(3, dim, -1)...),
	}
	for n := 1; n <= maxLists; n++ {
		for _, wide := range []int{1, 4, 60, most} {
			l = append(l, scattered(uint64(7000*n+wide), n, dim, wide))
		}
	}
	return l
}

// badCentroids are some that may not be those of lists: too many, and with one at each place that may not be, or is of another dimension.
func badCentroids() [][][]int32 {
	var l [][][]int32
	for dim := 1; dim <= 4; dim++ {
		for _, n := range []int{maxLists + 1, maxLists + 2, 96, 256, 256 + 2, 5000} {
			l = append(l, filled(n, dim, 3))
		}
		for n := 1; n <= maxLists; n++ {
			c := scattered(uint64(n), n, dim, 9)
			for place := range n {
				for _, v := range badVecs() {
					l = append(l, with(c, place, v...))
				}
				if n > 1 {
					l = append(l, with(c, place, other(dim)...), with(c, place, make([]int32, (dim+1)%4+1)...))
				}
			}
		}
	}
	return append(l, [][]int32{{1}, {2}, {3, 4}, {5, 6}}, [][]int32{{1}, {2, 3}, nil}, with(filled(7, 1, 0), 3), with(filled(7, 1, 0), 6, 1, 2))
}

// fewBadCentroids are one of each kind.
func fewBadCentroids() [][][]int32 {
	return [][][]int32{filled(7, 1, 0), {nil}, {{1}, {}}, {{1, 2}, {3}}, {{1}, {2, 3}}, ones(5, most+1), ones(least-1, 5), {{1, 2, 3, 4, 5}}}
}

// sharedOut are lists of these centroids, each slot in one of them or in none, as the seed has it.
func sharedOut(seed uint64, c [][]int32) api.Lists {
	next := random(seed)
	in := make([][]int, len(c)+1)
	for slot := range slots {
		place := next(len(c) + 1)
		in[place] = append(in[place], slot)
	}
	return listed(c, in[:len(c)]...)
}

// badLists are lists that may not be: by their centroids, by how many masks there are, by a mask, by two masks.
func badLists() []api.Lists {
	l := []api.Lists{{Masks: make([]api.Mask, 1)}, {Masks: []api.Mask{maskOf(5)}}, {Centroids: ones(5)}, {Centroids: ones(5), Masks: []api.Mask{}}}
	for i, c := range badCentroids() {
		// Some of each kind are enough here, the kinds stand one behind the other.
		if i%7 == 0 || len(c) > maxLists {
			l = append(l, sharedOut(uint64(len(l)), c))
		}
	}
	for n := 1; n <= maxLists; n++ {
		good := sharedOut(uint64(n), scattered(uint64(n), n, n%4+1, 50))
		for _, k := range []int{0, n - 1, n + 1, 256 + n} {
			bad := ownLists(good)
			bad.Masks = append(bad.Masks, make([]api.Mask, k)...)[:k]
			l = append(l, bad)
		}
		for place, m := range good.Masks {
			for _, bit := range []int{96, 97, 127} {
				l = append(l, masked(good, place, api.Mask{m[0], m[1] | maskOf(bit)[1]}), masked(listed(good.Centroids), place, maskOf(bit)))
			}
			for second := range place {
				l = append(l, common(good.Centroids, place, second)...)
			}
		}
	}
	return append(l, sharedOut(4, filled(7, 1, 0)), api.Lists{Centroids: filled(6, 1, 0), Masks: slices.Repeat([]api.Mask{maskOf(8)}, 6)})
}

// common are lists whose masks at two places have one slot in common, or all.
func common(c [][]int32, a, b int) []api.Lists {
	l := []api.Lists{masked(masked(listed(c), a, maskOf(spread(0, slots, 1)...)), b, maskOf(spread(0, slots, 1)...))}
	for _, slot := range []int{0, 63, 64, 95} {
		l = append(l, masked(masked(listed(c), a, maskOf(slot, 2, 70)), b, maskOf(slot, 3, 71)))
	}
	return l
}

// fewBadLists are one of each kind.
func fewBadLists() []api.Lists {
	l := []api.Lists{
		{Masks: make([]api.Mask, 1)}, {Centroids: ones(5)}, {Centroids: ones(5), Masks: make([]api.Mask, 2)}, listed(ones(5), []int{96}),
		listed(ones(5, 6), []int{3}, []int{3}), listed([][]int32{{1, 2}, {3, 4}}, []int{127}), listed([][]int32{{1, 2}, {3, 4}}, []int{70}, []int{70}),
	}
	for _, c := range fewBadCentroids() {
		l = append(l, listed(c))
	}
	return l
}

// wide is an arena of that dimension in which all slots are used, of some Ids, with versions of times up to 40.
func wide(dim, far int) api.Arena {
	next := random(uint64(dim * far))
	a := laid()
	for slot, v := range scattered(uint64(dim), slots, dim, far) {
		begin := uint64(1 + next(20))
		a.Cells[slot] = cell(uint64(next(40)), begin, uint64(next(2))*(begin+1+uint64(next(20))), v...)
	}
	return a
}

// arenasOf are arenas of that dimension that may be: with none used, all, one, and some.
func arenasOf(dim int) []api.Arena {
	all := wide(dim, []int{4, 9, 3, 2}[dim-1])
	l := []api.Arena{laid(), all, wide(dim, 60), wide(dim, most), thinned(all, spread(0, slots, 2)...), thinned(all, spread(1, slots, 7)...), thinned(all, spread(64, slots, 1)...)}
	for _, slot := range edgeSlots() {
		l = append(l, thinned(all, slot), put(all, slot, api.Cell{}))
	}
	return l
}

// mixedArenas are arenas that may be in which not all vectors are of that dimension.
func mixedArenas(dim int) []api.Arena {
	all := wide(dim, 9)
	l := []api.Arena{wide(dim%4+1, 9), laid(at(5, other(dim)...)), laid(at(1, 1), at(2, 1, 2), at(3, 1, 2, 3), at(4, 1, 2, 3, 4))}
	for _, slot := range edgeSlots() {
		l = append(l, put(all, slot, at(5, other(dim)...)), put(all, slot, cell(5, 10, 20, other(dim)...)), put(laid(), slot, cell(5, 3, 9, other(dim)...)))
	}
	return l
}

// badCells are cells that may not be: ones that are not used and have something, and used ones with a version that may not be.
func badCells() []api.Cell {
	l := []api.Cell{
		{Id: 1}, {Id: 7, Version: api.Version{Begin: 1, Vec: []int32{5}}}, {Version: api.Version{Begin: 1}}, {Version: api.Version{End: 1}}, {Version: api.Version{Vec: []int32{5}}},
		cell(7, 0, 0, 5), cell(7, 0, 1, 5), cell(7, 3, 3, 5), cell(7, 3, 2, 5), cell(7, 3, last+1, 5), cell(7, last+1, 0, 5), cell(7, math.MaxUint64, 0, 5),
	}
	for _, v := range badVecs() {
		l = append(l, cell(7, 3, 0, v...))
	}
	return l
}

// badArenas are arenas that may not be: of another number of cells, and with one cell, at each of some slots, that has one fault.
func badArenas() []api.Arena {
	l := []api.Arena{{}, {Cells: []api.Cell{}}}
	for _, n := range []int{1, 64, slots - 1, slots + 1, 2 * slots, 256, 256 + slots} {
		l = append(l, api.Arena{Cells: make([]api.Cell, n)}, api.Arena{Cells: slices.Repeat([]api.Cell{at(7, 5)}, n)})
	}
	for i, c := range badCells() {
		for _, slot := range []int{0, 63, 64, 95} {
			l = append(l, put(laid(), slot, c), put(wide(1+i%4, 9), slot, c))
		}
	}
	return l
}

// fewBadArenas are one of each kind.
func fewBadArenas() []api.Arena {
	return []api.Arena{{}, {Cells: make([]api.Cell, slots-1)}, {Cells: slices.Repeat([]api.Cell{at(7, 5)}, slots+1)}, put(laid(), 95, api.Cell{Id: 7}), put(wide(1, 9), 5, cell(7, 0, 0, 5)), put(wide(2, 9), 70, at(7))}
}
