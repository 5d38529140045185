package lists

import (
	"math"
	"slices"
	"testing"

	"quiver/api"
)

// Here stands what the chapter says, once more and as plainly as it does, with what is asked of all calls.

const (
	maxLists = 6             // how many centroids there are at most
	slots    = 96            // how many there are
	last     = 1099511627776 // the greatest time of a version
	most     = 1073741823    // the greatest component
	least    = -most
)

// ones are vectors of one component.
func ones(components ...int32) [][]int32 {
	var l [][]int32
	for _, component := range components {
		l = append(l, []int32{component})
	}
	return l
}

// own is c with memory of its own.
func own(c [][]int32) [][]int32 {
	m := slices.Clone(c)
	for i := range m {
		m[i] = slices.Clone(m[i])
	}
	return m
}

// with is c with another vector at a place.
func with(c [][]int32, place int, v ...int32) [][]int32 {
	m := own(c)
	m[place] = v
	return m
}

// filled are n vectors that have just this component.
func filled(n, dim int, component int32) [][]int32 {
	return own(slices.Repeat([][]int32{slices.Repeat([]int32{component}, dim)}, n))
}

// random answers numbers below a bound that hang on the seed.
func random(seed uint64) func(bound int) int {
	return func(bound int) int {
		seed = seed*6364136223846793005 + 1442695040888963407
		return int(seed >> 33 % uint64(bound))
	}
}

// scattered are n vectors whose components are from -wide to wide.
func scattered(seed uint64, n, dim, wide int) [][]int32 {
	next := random(seed)
	l := filled(n, dim, 0)
	for _, v := range l {
		for i := range v {
			v[i] = int32(next(2*wide+1) - wide)
		}
	}
	return l
}

// maskOf has just the bits of these numbers, from 0 to 127.
func maskOf(l ...int) api.Mask {
	var m api.Mask
	for _, n := range l {
		m[n/64] |= 1 << (n % 64)
	}
	return m
}

// spread are numbers from from on, below to, so far apart.
func spread(from, to, apart int) []int {
	var l []int
	for n := from; n < to; n += apart {
		l = append(l, n)
	}
	return l
}

// listed are lists of these centroids, each with the slots that stand at its place; what stands at none has none.
func listed(c [][]int32, in ...[]int) api.Lists {
	l := api.Lists{Centroids: own(c), Masks: make([]api.Mask, len(c))}
	for place, slots := range in {
		l.Masks[place] = maskOf(slots...)
	}
	return l
}

// ownLists is l with memory of its own.
func ownLists(l api.Lists) api.Lists {
	return api.Lists{Centroids: own(l.Centroids), Masks: slices.Clone(l.Masks)}
}

// masked is l with another mask at a place.
func masked(l api.Lists, place int, m api.Mask) api.Lists {
	l = ownLists(l)
	l.Masks[place] = m
	return l
}

// cell is a used one, of which just the vector matters.
func cell(v ...int32) api.Cell {
	return api.Cell{Used: true, Id: 7, Version: api.Version{Begin: 1, Vec: v}}
}

// laid is an arena with these cells in the first slots.
func laid(l ...api.Cell) api.Arena {
	a := api.Arena{Cells: make([]api.Cell, slots)}
	copy(a.Cells, l)
	return ownArena(a)
}

// put is the arena with another cell in a slot.
func put(a api.Arena, slot int, c api.Cell) api.Arena {
	b := ownArena(a)
	b.Cells[slot] = c
	return ownArena(b)
}

// ownArena is a with memory of its own.
func ownArena(a api.Arena) api.Arena {
	b := api.Arena{Cells: slices.Clone(a.Cells)}
	for i := range b.Cells {
		b.Cells[i].Version.Vec = slices.Clone(b.Cells[i].Version.Vec)
	}
	return b
}

// vectors are those of the used cells, by their slots.
func vectors(a api.Arena) map[int][]int32 {
	l := map[int][]int32{}
	for slot, c := range a.Cells {
		if c.Used {
			l[slot] = c.Version.Vec
		}
	}
	return l
}

func wordedVec(v []int32) bool {
	tooFar := func(component int32) bool { return component < least || component > most }
	return len(v) >= 1 && len(v) <= 4 && !slices.ContainsFunc(v, tooFar)
}

func wordedCell(c api.Cell) bool {
	v := c.Version
	if !c.Used {
		return c.Id == 0 && v.Begin == 0 && v.End == 0 && len(v.Vec) == 0
	}
	ends := v.End == 0 || v.End > v.Begin && v.End <= last
	return v.Begin >= 1 && v.Begin <= last && ends && wordedVec(v.Vec)
}

func wordedArena(a api.Arena) bool {
	return len(a.Cells) == slots && !slices.ContainsFunc(a.Cells, func(c api.Cell) bool { return !wordedCell(c) })
}

func wordedHas(m api.Mask, slot int) bool {
	return slot >= 0 && slot < slots && m[slot/64]>>(slot%64)%2 == 1
}

func wordedCentroids(c [][]int32) bool {
	if len(c) > maxLists {
		return false
	}
	for _, v := range c {
		if !wordedVec(v) || len(v) != len(c[0]) {
			return false
		}
	}
	return true
}

func wordedLists(l api.Lists) bool {
	if !wordedCentroids(l.Centroids) || len(l.Masks) != len(l.Centroids) {
		return false
	}
	for i, m := range l.Masks {
		if m[1]>>32 != 0 {
			return false
		}
		for j := range i {
			if m[0]&l.Masks[j][0] != 0 || m[1]&l.Masks[j][1] != 0 {
				return false
			}
		}
	}
	return true
}

func wordedDist(v, w []int32) uint64 {
	sum := uint64(0)
	for i := range v {
		apart := uint64(int64(max(v[i], w[i])) - int64(min(v[i], w[i])))
		sum += apart * apart
	}
	return sum
}

// wordedNearest is the place of the one than which none is nearer, and none ahead of it is as near.
func wordedNearest(c [][]int32, v []int32) int {
	best := 0
	for i := range c {
		if wordedDist(c[i], v) < wordedDist(c[best], v) {
			best = i
		}
	}
	return best
}

func wordedSame(a, b api.Lists) bool {
	if len(a.Centroids) != len(b.Centroids) || len(a.Masks) != len(b.Masks) {
		return false
	}
	for i := range a.Centroids {
		if !slices.Equal(a.Centroids[i], b.Centroids[i]) {
			return false
		}
	}
	for i := range a.Masks {
		if a.Masks[i] != b.Masks[i] {
			return false
		}
	}
	return true
}

func wordedAgrees(l api.Lists, a api.Arena) bool {
	if !wordedLists(l) || !wordedArena(a) {
		return false
	}
	for slot, c := range a.Cells {
		for place, m := range l.Masks {
			if c.Used && len(c.Version.Vec) != len(l.Centroids[0]) {
				return false
			}
			belongs := c.Used && wordedNearest(l.Centroids, c.Version.Vec) == place
			if belongs != wordedHas(m, slot) {
				return false
			}
		}
	}
	return true
}

func wordedBuild(a api.Arena, c [][]int32) (api.Lists, api.Errno) {
	if !wordedArena(a) {
		return api.Lists{}, api.ErrArena
	}
	if !wordedCentroids(c) {
		return api.Lists{}, api.ErrLists
	}
	in := make([][]int, len(c))
	for slot, x := range a.Cells {
		if !x.Used || len(c) == 0 {
			continue
		}
		if len(x.Version.Vec) != len(c[0]) {
			return api.Lists{}, api.ErrDim
		}
		place := wordedNearest(c, x.Version.Vec)
		in[place] = append(in[place], slot)
	}
	return listed(c, in...), api.OK
}

func wordedWhere(l api.Lists, slot int) (int, bool) {
	for place, m := range l.Masks {
		if wordedLists(l) && wordedHas(m, slot) {
			return place, true
		}
	}
	return 0, false
}

func wordedAdd(l api.Lists, slot int, v []int32) (api.Lists, api.Errno) {
	_, there := wordedWhere(l, slot)
	switch {
	case !wordedLists(l):
		return api.Lists{}, api.ErrLists
	case slot < 0, slot >= slots, there:
		return api.Lists{}, api.ErrArg
	case !wordedVec(v):
		return api.Lists{}, api.ErrVec
	case len(l.Centroids) == 0:
		return l, api.OK
	case len(v) != len(l.Centroids[0]):
		return api.Lists{}, api.ErrDim
	}
	added := ownLists(l)
	added.Masks[wordedNearest(l.Centroids, v)][slot/64] |= 1 << (slot % 64)
	return added, api.OK
}

func wordedRemove(l api.Lists, gone ...int) (api.Lists, api.Errno) {
	if !wordedLists(l) {
		return api.Lists{}, api.ErrLists
	}
	removed := ownLists(l)
	for _, slot := range gone {
		if slot < 0 || slot >= slots {
			return api.Lists{}, api.ErrArg
		}
		for place := range removed.Masks {
			removed.Masks[place][slot/64] &^= 1 << (slot % 64)
		}
	}
	return removed, api.OK
}

func wordedUnion(l api.Lists, places ...int) (api.Mask, api.Errno) {
	if !wordedLists(l) {
		return api.Mask{}, api.ErrLists
	}
	var in []int
	for _, place := range places {
		if place < 0 || place >= len(l.Masks) {
			return api.Mask{}, api.ErrArg
		}
		for slot := range slots {
			if wordedHas(l.Masks[place], slot) {
				in = append(in, slot)
			}
		}
	}
	return maskOf(in...), api.OK
}

// checks holds what Check answers.
func checks(t *testing.T, l api.Lists, want api.Errno) {
	t.Helper()
	if err := Check(l); err != want {
		t.Errorf("Check(%v): %d, not %d", l, err, want)
	}
}

// comes holds lists that are answered, and the error, against what has to come of a call.
func comes(t *testing.T, got api.Lists, err api.Errno, want api.Lists, wantErr api.Errno, call ...any) {
	t.Helper()
	if err != wantErr || !wordedSame(got, want) {
		t.Errorf("%v: %v, %d, not %v, %d", call, got, err, want, wantErr)
	}
}

// builds holds what Build answers.
func builds(t *testing.T, a api.Arena, c [][]int32, want api.Lists, wantErr api.Errno) {
	t.Helper()
	got, err := Build(a, c)
	comes(t, got, err, want, wantErr, "Build", len(a.Cells), vectors(a), c)
}

// adds holds what Add answers.
func adds(t *testing.T, l api.Lists, slot int, v []int32, want api.Lists, wantErr api.Errno) {
	t.Helper()
	got, err := Add(l, slot, v)
	comes(t, got, err, want, wantErr, "Add", l, slot, v)
}

// removes holds what Remove answers.
func removes(t *testing.T, l api.Lists, gone []int, want api.Lists, wantErr api.Errno) {
	t.Helper()
	got, err := Remove(l, gone...)
	comes(t, got, err, want, wantErr, "Remove", l, gone)
}

// isAt holds what Where answers.
func isAt(t *testing.T, l api.Lists, slot, want int, wantThere bool) {
	t.Helper()
	if got, there := Where(l, slot); got != want || there != wantThere {
		t.Errorf("Where(%v, %d): %d, %v, not %d, %v", l, slot, got, there, want, wantThere)
	}
}

// unites holds what Union answers.
func unites(t *testing.T, l api.Lists, places []int, want api.Mask, wantErr api.Errno) {
	t.Helper()
	if got, err := Union(l, places...); got != want || err != wantErr {
		t.Errorf("Union(%v, %v): %v, %d, not %v, %d", l, places, got, err, want, wantErr)
	}
}

// agrees holds what Agrees answers.
func agrees(t *testing.T, l api.Lists, a api.Arena, want bool) {
	t.Helper()
	if got := Agrees(l, a); got != want {
		t.Errorf("Agrees(%v, %d cells, of which %v): %v", l, len(a.Cells), vectors(a), got)
	}
}

// badVecs are vectors that may not be: of no components, of too many, and with one beyond the bounds at each place.
func badVecs() [][]int32 {
	l := [][]int32{nil, {}, {1, 2, 3, 4, 5}, make([]int32, 256), make([]int32, 257)}
	for dim := 1; dim <= 4; dim++ {
		for place := range dim {
			for _, component := range []int32{most + 1, least - 1, math.MaxInt32, math.MinInt32} {
				v := make([]int32, dim)
				v[place] = component
				l = append(l, v)
			}
		}
	}
	return l
}

// badSlots are numbers that are no slots.
func badSlots() []int {
	return []int{-1, slots, -2, slots + 1, -64, -96, 127, 128, 192, 256, -256, 1 << 20, math.MaxInt32, math.MinInt32, 1 << 32, 1<<32 + 5, -1 << 32, math.MaxInt, math.MinInt, math.MinInt + 1}
}

// edgeSlots are the first and the last ones, and those around the end of a mask's first word.
func edgeSlots() []int {
	return []int{0, 1, 31, 32, 63, 64, 65, 94, 95}
}

// other is the vector 0 of another dimension.
func other(dim int) []int32 {
	return make([]int32, dim%4+1)
}

// goodCentroids are some that may be, all of that dimension: one to all, all the same, some equal, near, and far from everything.
func goodCentroids(dim int) [][][]int32 {
	l := [][][]int32{
		filled(1, dim, 0), filled(maxLists, dim, 0), filled(2, dim, most), filled(maxLists, dim, least),
		append(filled(1, dim, least), filled(2, dim, most)...), append(filled(2, dim, 1), filled(3, dim, -1)...),
	}
	for n := 1; n <= maxLists; n++ {
		for _, wide := range []int{1, 4, 60, most} {
			l = append(l, scattered(uint64(7000*n+wide), n, dim, wide))
		}
	}
	return l
}

// badCentroids are some that may not be those of lists: too many, and with one at each place that may not be, or is of another dimension.
func badCentroids() [][][]int32 {
	var l [][][]int32
	for dim := 1; dim <= 4; dim++ {
		for _, n := range []int{maxLists + 1, maxLists + 2, 96, 256, 256 + 2, 5000} {
			l = append(l, filled(n, dim, 3))
		}
		for n := 1; n <= maxLists; n++ {
			c := scattered(uint64(n), n, dim, 9)
			for place := range n {
				for _, v := range badVecs() {
					l = append(l, with(c, place, v...))
				}
				if n > 1 {
					l = append(l, with(c, place, other(dim)...), with(c, place, make([]int32, (dim+1)%4+1)...))
				}
			}
		}
	}
	return append(l, [][]int32{{1}, {2}, {3, 4}, {5, 6}}, [][]int32{{1}, {2, 3}, nil}, with(filled(7, 1, 0), 3), with(filled(7, 1, 0), 6, 1, 2))
}

// sharedOut are lists of these centroids, each slot in one of them or in none, as the seed has it.
func sharedOut(seed uint64, c [][]int32) api.Lists {
	next := random(seed)
	in := make([][]int, len(c)+1)
	for slot := range slots {
		place := next(len(c) + 1)
		in[place] = append(in[place], slot)
	}
	return listed(c, in[:len(c)]...)
}

// goodLists are lists that may be: without centroids, with one to all, of which none, some, or all of the slots are in one.
func goodLists() []api.Lists {
	all := spread(0, slots, 1)
	l := []api.Lists{{}, {Centroids: [][]int32{}, Masks: []api.Mask{}}, {Masks: []api.Mask{}}}
	for dim := 1; dim <= 4; dim++ {
		for i, c := range goodCentroids(dim) {
			l = append(l, sharedOut(uint64(dim*100+i), c))
			last := make([][]int, len(c))
			last[len(c)-1] = all
			switch i % 4 {
			case 0:
				l = append(l, listed(c))
			case 1:
				l = append(l, listed(c, all))
			case 2:
				l = append(l, listed(c, last...))
			case 3:
				in := make([][]int, len(c))
				for place := range c {
					in[place] = spread(place, slots, len(c))
				}
				l = append(l, listed(c, in...))
			}
		}
	}
	return l
}

// badLists are lists that may not be: by their centroids, by how many masks there are, by a mask, by two masks.
func badLists() []api.Lists {
	l := []api.Lists{{Masks: make([]api.Mask, 1)}, {Masks: []api.Mask{maskOf(5)}}, {Centroids: ones(5)}, {Centroids: ones(5), Masks: []api.Mask{}}}
	for _, c := range badCentroids() {
		l = append(l, sharedOut(uint64(len(l)), c))
	}
	for n := 1; n <= maxLists; n++ {
		good := sharedOut(uint64(n), scattered(uint64(n), n, n%4+1, 50))
		for _, k := range []int{0, n - 1, n + 1, 256 + n} {
			bad := ownLists(good)
			bad.Masks = append(bad.Masks, make([]api.Mask, k)...)[:k]
			l = append(l, bad)
		}
		for place, m := range good.Masks {
			for _, bit := range []int{96, 97, 100, 126, 127} {
				l = append(l, masked(good, place, api.Mask{m[0], m[1] | maskOf(bit)[1]}), masked(listed(good.Centroids), place, maskOf(bit)))
			}
			l = append(l, masked(good, place, maskOf(spread(0, 128, 1)...)))
			for second := range place {
				l = append(l, common(good.Centroids, place, second)...)
			}
		}
	}
	return append(l, sharedOut(4, filled(7, 1, 0)), api.Lists{Centroids: filled(6, 1, 0), Masks: slices.Repeat([]api.Mask{maskOf(8)}, 6)})
}

// common are lists whose masks at two places have one slot in common, or all.
func common(c [][]int32, a, b int) []api.Lists {
	l := []api.Lists{masked(masked(listed(c), a, maskOf(spread(0, slots, 1)...)), b, maskOf(spread(0, slots, 1)...))}
	for _, slot := range edgeSlots() {
		shared := masked(masked(listed(c), a, maskOf(slot, 2, 70)), b, maskOf(slot, 3, 71))
		l = append(l, shared, masked(masked(listed(c), a, maskOf(slot)), b, maskOf(slot)))
	}
	return l
}

// wide is an arena of that dimension in which all slots are used.
func wide(dim, far int) api.Arena {
	a := laid()
	for slot, v := range scattered(uint64(dim), slots, dim, far) {
		a.Cells[slot] = api.Cell{Used: true, Id: uint64(slot % 40), Version: api.Version{Begin: uint64(1 + slot), End: uint64(slot % 2 * 500), Vec: v}}
	}
	return a
}

// thinned is the arena in which just the slots of l are used.
func thinned(a api.Arena, l ...int) api.Arena {
	b := laid()
	for _, slot := range l {
		b.Cells[slot] = a.Cells[slot]
	}
	return ownArena(b)
}

// goodArenas are arenas that may be: of each dimension, and of several, with none used, all, one, and some.
func goodArenas() []api.Arena {
	l := []api.Arena{laid()}
	for dim := 1; dim <= 4; dim++ {
		all := wide(dim, []int{4, 60, 3, most}[dim-1])
		l = append(l, all, wide(dim, most), thinned(all, spread(0, slots, 2)...), thinned(all, spread(1, slots, 7)...), thinned(all, spread(64, slots, 1)...))
		for _, slot := range edgeSlots() {
			l = append(l, thinned(all, slot), put(all, slot, cell(other(dim)...)))
		}
		l = append(l, laid(cell(other(dim)...)), laid(append(slices.Clone(all.Cells[:5]), cell(other(dim)...))...))
	}
	return l
}

// badCells are cells that may not be: ones that are not used and have something, and used ones with a version that may not be.
func badCells() []api.Cell {
	l := []api.Cell{{Id: 1}, {Version: api.Version{Begin: 1}}, {Version: api.Version{Vec: []int32{5}}}}
	for _, v := range []api.Version{{Vec: []int32{5}}, {Begin: 3, End: 3, Vec: []int32{5}}, {Begin: last + 1, Vec: []int32{5}}, {Begin: 1, End: last + 1, Vec: []int32{5}}} {
		l = append(l, api.Cell{Used: true, Id: 7, Version: v})
	}
	for _, v := range badVecs() {
		l = append(l, cell(v...))
	}
	return l
}

// badArenas are arenas that may not be: of another number of cells, and with one cell, at each of some slots, that has one fault.
func badArenas() []api.Arena {
	l := []api.Arena{{}, {Cells: []api.Cell{}}}
	for _, n := range []int{1, 64, slots - 1, slots + 1, 2 * slots, 256 + slots} {
		l = append(l, api.Arena{Cells: make([]api.Cell, n)}, api.Arena{Cells: slices.Repeat([]api.Cell{cell(5)}, n)})
	}
	for i, c := range badCells() {
		for _, slot := range []int{0, 63, 64, 95} {
			l = append(l, put(laid(), slot, c), put(wide(1+i%4, 9), slot, c))
		}
	}
	return l
}
