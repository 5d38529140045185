package writes

import (
	"math"
	"slices"
	"testing"

	"quiver/api"
)

// Here stands what the chapter says, once more and as plainly as it does, with what is asked of all calls.

const (
	colls    = 3  // how many collections there are
	full     = 12 // how many writes there are at most
	most     = 1073741823
	least    = -most
	greatest = math.MaxUint64
)

func put(coll int, id uint64, v ...int32) api.Write {
	return api.Write{Coll: coll, Id: id, Vec: v}
}

func gone(coll int, id uint64) api.Write {
	return api.Write{Coll: coll, Id: id, Gone: true}
}

func row(id uint64, v ...int32) api.Row {
	return api.Row{Id: id, Vec: v}
}

// rowsOf are rows of one component: an Id and that, two by two.
func rowsOf(l ...int) []api.Row {
	var rows []api.Row
	for i := 0; i < len(l); i += 2 {
		rows = append(rows, row(uint64(l[i]), int32(l[i+1])))
	}
	return rows
}

// ownWrites is l with memory of its own.
func ownWrites(l []api.Write) []api.Write {
	l = slices.Clone(l)
	for i := range l {
		l[i].Vec = slices.Clone(l[i].Vec)
	}
	return l
}

// ownRows is l with memory of its own.
func ownRows(l []api.Row) []api.Row {
	l = slices.Clone(l)
	for i := range l {
		l[i].Vec = slices.Clone(l[i].Vec)
	}
	return l
}

func wordedVec(v []int32) bool {
	tooFar := func(component int32) bool { return component < least || component > most }
	return len(v) >= 1 && len(v) <= 4 && !slices.ContainsFunc(v, tooFar)
}

func wordedColl(coll int) bool {
	return coll == 0 || coll == 1 || coll == 2
}

func wordedWrite(w api.Write) bool {
	if w.Gone && len(w.Vec) > 0 || !w.Gone && !wordedVec(w.Vec) {
		return false
	}
	return wordedColl(w.Coll)
}

// wordedAhead tells whether a stands ahead of b.
func wordedAhead(a, b api.Write) bool {
	return a.Coll < b.Coll || a.Coll == b.Coll && a.Id < b.Id
}

func wordedWrites(l []api.Write) bool {
	for i, w := range l {
		if !wordedWrite(w) {
			return false
		}
		for _, later := range l[i+1:] {
			if !wordedAhead(w, later) {
				return false
			}
		}
	}
	return len(l) <= full
}

func wordedRows(l []api.Row) bool {
	for i, r := range l {
		if !wordedVec(r.Vec) || i > 0 && l[i-1].Id >= r.Id {
			return false
		}
	}
	return true
}

func wordedSameWrite(a, b api.Write) bool {
	return a.Coll == b.Coll && a.Id == b.Id && a.Gone == b.Gone && slices.Equal(a.Vec, b.Vec)
}

func wordedSame(a, b []api.Write) bool {
	return slices.EqualFunc(a, b, wordedSameWrite)
}

func wordedSameRows(a, b []api.Row) bool {
	return slices.EqualFunc(a, b, func(x, y api.Row) bool { return x.Id == y.Id && slices.Equal(x.Vec, y.Vec) })
}

// wordedFind looks for a write of that row, in whatever writes.
func wordedFind(l []api.Write, coll int, id uint64) (api.Write, bool) {
	for _, w := range l {
		if w.Coll == coll && w.Id == id {
			return w, true
		}
	}
	return api.Write{}, false
}

// without is l with no write of that row.
func without(l []api.Write, coll int, id uint64) []api.Write {
	return slices.DeleteFunc(ownWrites(l), func(w api.Write) bool { return w.Coll == coll && w.Id == id })
}

// with is l with w as the write of its row.
func with(l []api.Write, w api.Write) []api.Write {
	l = append(without(l, w.Coll, w.Id), ownWrites([]api.Write{w})...)
	slices.SortFunc(l, func(a, b api.Write) int {
		if wordedAhead(a, b) {
			return -1
		}
		return 1
	})
	return l
}

func wordedPut(l []api.Write, coll int, r api.Row) ([]api.Write, api.Errno) {
	_, written := wordedFind(l, coll, r.Id)
	switch {
	case !wordedWrites(l):
		return nil, api.ErrWrites
	case !wordedColl(coll):
		return nil, api.ErrArg
	case !wordedVec(r.Vec):
		return nil, api.ErrVec
	case !written && len(l) == full:
		return nil, api.ErrFull
	}
	return with(l, put(coll, r.Id, r.Vec...)), api.OK
}

func wordedDel(l []api.Write, coll int, id uint64, there bool) ([]api.Write, api.Errno) {
	w, written := wordedFind(l, coll, id)
	switch {
	case !wordedWrites(l):
		return nil, api.ErrWrites
	case !wordedColl(coll):
		return nil, api.ErrArg
	case written && w.Gone:
		return nil, api.ErrNone
	case written && there:
		return with(l, gone(coll, id)), api.OK
	case written:
		return without(l, coll, id), api.OK
	case !there:
		return nil, api.ErrNone
	case len(l) == full:
		return nil, api.ErrFull
	}
	return with(l, gone(coll, id)), api.OK
}

func wordedOf(l []api.Write, coll int) []api.Write {
	if !wordedWrites(l) {
		return nil
	}
	return slices.DeleteFunc(ownWrites(l), func(w api.Write) bool { return w.Coll != coll })
}

func wordedOverlay(l []api.Write, coll int, rows []api.Row) ([]api.Row, api.Errno) {
	switch {
	case !wordedWrites(l):
		return nil, api.ErrWrites
	case !wordedColl(coll):
		return nil, api.ErrArg
	case !wordedRows(rows):
		return nil, api.ErrRow
	}
	var ids []uint64
	for _, r := range rows {
		ids = append(ids, r.Id)
	}
	for _, w := range l {
		ids = append(ids, w.Id)
	}
	slices.Sort(ids)
	var all []api.Row
	for _, id := range slices.Compact(ids) {
		if w, written := wordedFind(l, coll, id); written {
			if !w.Gone {
				all = append(all, row(id, w.Vec...))
			}
			continue
		}
		for _, r := range rows {
			if r.Id == id {
				all = append(all, r)
			}
		}
	}
	return all, api.OK
}

// checks holds what Check answers.
func checks(t *testing.T, l []api.Write, want api.Errno) {
	t.Helper()
	if err := Check(l); err != want {
		t.Errorf("Check(%v): %d, not %d", l, err, want)
	}
}

// comes holds writes that are answered, and the error, against what has to come of a call.
func comes(t *testing.T, got []api.Write, err api.Errno, want []api.Write, wantErr api.Errno, call ...any) {
	t.Helper()
	if err != wantErr || !wordedSame(got, want) {
		t.Errorf("%v: %v, %d, not %v, %d", call, got, err, want, wantErr)
	}
}

// puts holds what Put answers.
func puts(t *testing.T, l []api.Write, coll int, r api.Row, want []api.Write, wantErr api.Errno) {
	t.Helper()
	got, err := Put(l, coll, r)
	comes(t, got, err, want, wantErr, "Put", l, coll, r)
}

// dels holds what Del answers.
func dels(t *testing.T, l []api.Write, k api.Write, there bool, want []api.Write, wantErr api.Errno) {
	t.Helper()
	got, err := Del(l, k, there)
	comes(t, got, err, want, wantErr, "Del", l, k, there)
}

// finds holds what Find answers.
func finds(t *testing.T, l []api.Write, coll int, id uint64, want api.Write, wantOk bool) {
	t.Helper()
	if got, ok := Find(l, coll, id); ok != wantOk || !wordedSameWrite(got, want) {
		t.Errorf("Find(%v, %d, %d): %v, %v, not %v, %v", l, coll, id, got, ok, want, wantOk)
	}
}

// isOf holds what Of answers.
func isOf(t *testing.T, l []api.Write, coll int, want []api.Write) {
	t.Helper()
	if got := Of(l, coll); !wordedSame(got, want) {
		t.Errorf("Of(%v, %d): %v, not %v", l, coll, got, want)
	}
}

// overlays holds what Overlay answers.
func overlays(t *testing.T, l []api.Write, coll int, rows, want []api.Row, wantErr api.Errno) {
	t.Helper()
	if got, err := Overlay(l, coll, rows); err != wantErr || !wordedSameRows(got, want) {
		t.Errorf("Overlay(%v, %d, %v): %v, %d, not %v, %d", l, coll, rows, got, err, want, wantErr)
	}
}

// putAsWorded holds Put against the chapter's words, and tells the error.
func putAsWorded(t *testing.T, l []api.Write, coll int, r api.Row) api.Errno {
	t.Helper()
	want, err := wordedPut(l, coll, r)
	puts(t, l, coll, r, want, err)
	return err
}

// delAsWorded holds Del against the chapter's words, and tells the error.
func delAsWorded(t *testing.T, l []api.Write, k api.Write, there bool) api.Errno {
	t.Helper()
	want, err := wordedDel(l, k.Coll, k.Id, there)
	dels(t, l, k, there, want, err)
	return err
}

// overlayAsWorded holds Overlay against the chapter's words, and tells the error.
func overlayAsWorded(t *testing.T, l []api.Write, coll int, rows []api.Row) api.Errno {
	t.Helper()
	want, err := wordedOverlay(l, coll, rows)
	overlays(t, l, coll, rows, want, err)
	return err
}

// goodVecs are vectors that may be: of each dimension, with the utmost components at each place.
func goodVecs() [][]int32 {
	var l [][]int32
	for dim := 1; dim <= 4; dim++ {
		l = append(l, []int32{7, -8, 9, -10}[:dim], make([]int32, dim))
		for place := range dim {
			for _, component := range []int32{most, least} {
				v := make([]int32, dim)
				v[place] = component
				l = append(l, v)
			}
		}
	}
	return l
}

// badVecs are vectors that may not be: of no components, of too many, and with one beyond the bounds at each place.
func badVecs() [][]int32 {
	l := [][]int32{nil, {}, {1, 2, 3, 4, 5}, make([]int32, 256), make([]int32, 257)}
	for dim := 1; dim <= 4; dim++ {
		for place := range dim {
			for _, component := range []int32{most + 1, least - 1, math.MaxInt32, math.MinInt32} {
				v := make([]int32, dim)
				v[place] = component
				l = append(l, v)
			}
		}
	}
	return l
}

// badColls are numbers of which there is no collection.
func badColls() []int {
	return []int{-1, colls, -2, -3, colls + 1, 255, 256, 257, -256, 1 << 31, 1 << 32, 1<<32 + 1, -1 << 32, math.MaxInt32, math.MinInt32, math.MaxInt, math.MinInt, math.MinInt + 1}
}

// edgeIds are the utmost ones, and those around which a narrower number, or one with a sign, would wrap round.
func edgeIds() []uint64 {
	return []uint64{0, 1, 255, 256, 1<<31 - 1, 1 << 31, 1 << 32, 1<<32 + 1, 1<<63 - 1, 1 << 63, 1<<63 + 1, greatest - 1, greatest}
}

// each are all lists of writes of these rows: each one is not written, put, or gone.
func each(keys ...api.Write) [][]api.Write {
	l := [][]api.Write{nil}
	for i, k := range keys {
		for _, shorter := range l {
			l = append(l, with(shorter, put(k.Coll, k.Id, int32(i), 70)), with(shorter, gone(k.Coll, k.Id)))
		}
	}
	return l
}

// small are all lists of writes of a few rows.
func small() [][]api.Write {
	return each(gone(0, 3), gone(0, 5), gone(0, 9), gone(1, 5), gone(2, 3), gone(2, 5))
}

// numbered are n writes of one collection, of the rows 10, 20 and so on, of which one in three is gone.
func numbered(n, coll int) []api.Write {
	var l []api.Write
	for i := range n {
		w := put(coll, uint64(10*i+10), int32(i), -7)
		if i%3 == 1 {
			w = gone(coll, w.Id)
		}
		l = append(l, w)
	}
	return l
}

// spread are so many writes of each collection.
func spread(a, b, c int) []api.Write {
	return slices.Concat(numbered(a, 0), numbered(b, 1), numbered(c, 2))
}

// fullLists are lists of as many writes as there may be, in each way of a few shared out among the collections, as they are, all put, and all gone.
func fullLists() [][]api.Write {
	var l [][]api.Write
	for a := 0; a <= full; a += 3 {
		for b := 0; a+b <= full; b += 4 {
			mixed := spread(a, b, full-a-b)
			allPut, allGone := ownWrites(mixed), ownWrites(mixed)
			for i, w := range mixed {
				allPut[i] = put(w.Coll, w.Id, 5)
				allGone[i] = gone(w.Coll, w.Id)
			}
			l = append(l, mixed, allPut, allGone)
		}
	}
	return l
}

// goodLists are writes that may be: none, one of each kind, some of a few rows, of each length, and of the utmost Ids.
func goodLists() [][]api.Write {
	l := append(small(), []api.Write{})
	for coll := range colls {
		for _, id := range edgeIds() {
			l = append(l, []api.Write{gone(coll, id)}, []api.Write{{Coll: coll, Id: id, Gone: true, Vec: []int32{}}})
		}
		for _, v := range goodVecs() {
			l = append(l, []api.Write{put(coll, greatest, v...)}, []api.Write{put(coll, 0, v...), gone(coll, greatest)})
		}
		for n := range full {
			l = append(l, numbered(n, coll))
		}
	}
	utmost := []api.Write{gone(0, 0), put(0, greatest, 5), put(1, 0, 6), gone(1, greatest), put(2, 0, 7), put(2, greatest, 8)}
	return slices.Concat(l, fullLists(), [][]api.Write{utmost})
}

// badLists are writes that may not be: by one write that may not, by two out of order or of one row, at each place, and by how many there are.
func badLists() [][]api.Write {
	var l [][]api.Write
	for _, n := range []int{1, 2, 3, full} {
		for place := range n {
			l = append(l, spoiled(numbered(n, 1), place)...)
			l = append(l, misplaced(spread(n/3, n-n/3-n/4, n/4), place)...)
		}
	}
	for _, n := range []int{full + 1, full + 2, 2 * full, 256, 256 + 5, 256 + full, 5000} {
		l = append(l, numbered(n, 0), numbered(n, 2), spread(n/3, n/3, n-n/3*2))
	}
	return append(l, spread(5, 5, 3), spread(1, full, 0), spread(0, 1, full))
}

// spoiled are lists whose write at that place may not be, each in its own way; all else may.
func spoiled(l []api.Write, place int) [][]api.Write {
	var all [][]api.Write
	change := func(w api.Write) {
		other := ownWrites(l)
		other[place] = w
		all = append(all, other)
	}
	id := l[place].Id
	for _, coll := range badColls() {
		// At either end it would stand in order.
		change(put(coll, id, 5))
		change(gone(coll, id))
	}
	for _, v := range badVecs() {
		change(put(1, id, v...))
		if len(v) > 0 {
			change(api.Write{Coll: 1, Id: id, Gone: true, Vec: v})
		}
	}
	for _, v := range goodVecs() {
		change(api.Write{Coll: 1, Id: id, Gone: true, Vec: v})
	}
	return all
}

// misplaced are lists in which the write at that place stands twice, or behind the next one; each write of theirs may be.
func misplaced(l []api.Write, place int) [][]api.Write {
	w := l[place]
	all := [][]api.Write{
		slices.Insert(ownWrites(l), place, w),
		slices.Insert(ownWrites(l), place, gone(w.Coll, w.Id)),
		slices.Insert(ownWrites(l), place+1, put(w.Coll, w.Id, 5)),
	}
	if len(l) == full {
		// None of these has more writes than there may be.
		all = nil
	}
	if place+1 < len(l) {
		next := l[place+1]
		swapped, twice, back := ownWrites(l), ownWrites(l), ownWrites(l)
		swapped[place], swapped[place+1] = next, w
		twice[place] = put(next.Coll, next.Id, 5)
		back[place].Id = next.Id + 1
		back[place].Coll = next.Coll
		all = append(all, swapped, twice, back)
	}
	if len(l) > 1 && place > 0 {
		first := ownWrites(l)
		first[place] = put(l[0].Coll, l[0].Id, 6)
		all = append(all, first)
	}
	return all
}

// goodRows are rows that may be: all sets of a few Ids, and some of each dimension and of the utmost Ids.
func goodRows() [][]api.Row {
	l := [][]api.Row{nil, {}}
	for _, id := range []int{2, 3, 4, 5, 9, 11} {
		for _, shorter := range l[1:] {
			l = append(l, append(ownRows(shorter), rowsOf(id, 100+id)...))
		}
	}
	for _, v := range goodVecs() {
		l = append(l, []api.Row{row(0, v...), row(3, 1), row(greatest, v...)})
	}
	return l
}

// badRows are rows that may not be: out of order, twice of one Id, and with a vector that may not be, at each place.
func badRows() [][]api.Row {
	var l [][]api.Row
	for _, n := range []int{1, 2, 3, 40} {
		var rows []api.Row
		for i := range n {
			rows = append(rows, row(uint64(2*i+1), int32(i), 5))
		}
		for place := range n {
			for _, v := range badVecs() {
				bad := ownRows(rows)
				bad[place].Vec = v
				l = append(l, bad)
			}
			l = append(l, slices.Insert(ownRows(rows), place, rows[place]), slices.Insert(ownRows(rows), place, row(rows[place].Id, 9)))
			if place > 0 {
				swapped, first, low := ownRows(rows), ownRows(rows), ownRows(rows)
				swapped[place-1], swapped[place] = rows[place], rows[place-1]
				first[place].Id = rows[0].Id
				low[place].Id = 0
				l = append(l, swapped, first, low)
			}
		}
	}
	return append(l, []api.Row{row(greatest, 1), row(0, 1)}, []api.Row{row(1<<63, 1), row(1, 1)}, []api.Row{row(1<<32, 1), row(1, 1)}, []api.Row{{}})
}

// random answers numbers from 0 on, below the bound that it is asked with.
func random(seed uint64) func(bound int) int {
	return func(bound int) int {
		seed = seed*6364136223846793005 + 1442695040888963407
		return int(seed >> 33 % uint64(bound))
	}
}
