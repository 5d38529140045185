package writes

import (
	"slices"
	"testing"

	"quiver/api"
)

// sight is what a transaction sees of each collection, if without it there are these rows.
func sight(t *testing.T, l []api.Write, rows [][]api.Row) [][]api.Row {
	t.Helper()
	var all [][]api.Row
	for coll := range colls {
		seen, err := Overlay(l, coll, rows[coll])
		if err != api.OK || !wordedRows(seen) {
			t.Errorf("Overlay(%v, %d, %v): %v, %d", l, coll, rows[coll], seen, err)
		}
		all = append(all, seen)
	}
	return all
}

// vecOf is the vector of a row; nil, if it is not among these.
func vecOf(rows []api.Row, id uint64) []int32 {
	for _, r := range rows {
		if r.Id == id {
			return r.Vec
		}
	}
	return nil
}

// became holds what is seen: v of that row (nothing, if v is nil), and of all others, of all collections, what was seen.
func became(t *testing.T, l []api.Write, rows, was [][]api.Row, coll int, id uint64, v []int32) {
	t.Helper()
	if Check(l) != api.OK || !wordedWrites(l) {
		t.Errorf("%v may not be", l)
	}
	is := sight(t, l, rows)
	for other := range colls {
		for _, r := range slices.Concat(was[other], is[other], []api.Row{row(id)}) {
			want := vecOf(was[other], r.Id)
			if other == coll && r.Id == id {
				want = v
			}
			if got := vecOf(is[other], r.Id); !slices.Equal(got, want) {
				t.Errorf("%v over %v: row %d of %d is %v, not %v", l, rows, r.Id, other, got, want)
			}
		}
	}
}

// someRows are rows of all collections, of which some are written in small, and some are not.
func someRows() [][][]api.Row {
	return [][][]api.Row{
		{nil, nil, nil},
		{rowsOf(3, 1, 5, 2), rowsOf(5, 3), rowsOf(4, 4)},
		{rowsOf(2, 1, 4, 2, 9, 3, 11, 4), nil, rowsOf(3, 5, 5, 6)},
		{rowsOf(3, 1, 4, 2, 5, 3, 6, 4, 9, 5), rowsOf(3, 6, 5, 7, 9, 8), rowsOf(3, 9, 4, 10, 5, 11)},
	}
}

// P16.4: what was put is seen, and all else as it was; as often as it is put.
func TestPutIsSeen(t *testing.T) {
	for _, rows := range someRows() {
		for _, l := range small() {
			was := sight(t, l, rows)
			for coll := range colls {
				for _, id := range []uint64{1, 3, 4, 5, 9, 10} {
					once, err := Put(l, coll, row(id, 80, 81))
					if err != api.OK {
						t.Fatalf("Put(%v, %d, %d): %d", l, coll, id, err)
					}
					became(t, once, rows, was, coll, id, []int32{80, 81})
					twice, err := Put(once, coll, row(id, 82))
					if err != api.OK || len(twice) != len(once) {
						t.Errorf("Put(%v, %d, %d): %v, %d", once, coll, id, twice, err)
					}
					became(t, twice, rows, was, coll, id, []int32{82})
				}
			}
		}
	}
}

// P16.4: what was deleted is not seen, and all else is as it was; just what is seen is deleted.
func TestDeletedIsNotSeen(t *testing.T) {
	deleted := 0
	for _, rows := range someRows() {
		for _, l := range small() {
			was := sight(t, l, rows)
			for coll := range colls {
				for _, id := range []uint64{1, 3, 4, 5, 9, 10} {
					isSeen := vecOf(was[coll], id) != nil
					left, err := Del(l, gone(coll, id), vecOf(rows[coll], id) != nil)
					if err == api.ErrNone && !isSeen {
						continue
					}
					if err != api.OK || !isSeen {
						t.Errorf("Del(%v, %d, %d) over %v: %d", l, coll, id, rows, err)
					}
					became(t, left, rows, was, coll, id, nil)
					deleted++
				}
			}
		}
	}
	if deleted < 1000 {
		t.Errorf("just %d are deleted", deleted)
	}
}

// P16.4: a row that was not there, put and deleted again, is not written; one that is there is gone, and may be put again.
func TestPutAndDeleted(t *testing.T) {
	for _, l := range slices.Concat(small(), [][]api.Write{numbered(full-1, 0), spread(4, 4, 3), spread(0, 5, 6)}) {
		for coll := range colls {
			for _, id := range []uint64{0, 3, 4, 5, 6, 15, greatest} {
				if _, written := wordedFind(l, coll, id); written {
					continue
				}
				put1, _ := Put(l, coll, row(id, 80))
				put2, _ := Put(put1, coll, row(id, 81, 82))
				for _, written := range [][]api.Write{put1, put2} {
					dels(t, written, gone(coll, id), false, l, api.OK)
					dels(t, written, gone(coll, id), true, with(l, gone(coll, id)), api.OK)
				}
				deleted, _ := Del(put2, gone(coll, id), true)
				dels(t, deleted, gone(coll, id), true, nil, api.ErrNone)
				puts(t, deleted, coll, row(id, 80), put1, api.OK)
				if w, written := Find(put2, coll, id); !written || !wordedSameWrite(w, put(coll, id, 81, 82)) {
					t.Errorf("Find(%v, %d, %d): %v, %v", put2, coll, id, w, written)
				}
			}
		}
	}
}

// P16.4: of writes that are all done to the rows nothing more is seen.
func TestOverlayOfOverlay(t *testing.T) {
	few := goodRows()
	for i, l := range goodLists() {
		for j, rows := range few {
			if (i+j)%5 > 0 {
				continue
			}
			for coll := range colls {
				once, err := Overlay(l, coll, rows)
				if err != api.OK || !wordedRows(once) {
					t.Fatalf("Overlay(%v, %d, %v): %v, %d", l, coll, rows, once, err)
				}
				overlays(t, l, coll, once, once, api.OK)
			}
		}
	}
}

// P16.4: rows are seen by the writes of their own collection alone.
func TestOverlayByOwnWrites(t *testing.T) {
	for _, l := range small() {
		for coll := range colls {
			for _, rows := range someRows() {
				want, err := Overlay(l, coll, rows[coll])
				if err != api.OK {
					t.Errorf("Overlay(%v, %d, %v): %d", l, coll, rows[coll], err)
				}
				overlays(t, Of(l, coll), coll, rows[coll], want, api.OK)
				for other := range colls {
					if other != coll {
						overlays(t, Of(l, coll), other, rows[other], rows[other], api.OK)
					}
				}
			}
		}
	}
}

// life is a transaction under way, with what it should see.
type life struct {
	l    []api.Write
	rows [][]api.Row
	seen []map[uint64][]int32
}

func newLife(rows [][]api.Row) *life {
	x := &life{rows: rows}
	for coll := range colls {
		x.seen = append(x.seen, map[uint64][]int32{})
		for _, r := range rows[coll] {
			x.seen[coll][r.Id] = r.Vec
		}
	}
	return x
}

// put puts a row, and tells the error; just a full one may refuse it.
func (x *life) put(t *testing.T, coll int, r api.Row) api.Errno {
	l, err := Put(x.l, coll, r)
	if err == api.OK {
		x.l, x.seen[coll][r.Id] = l, r.Vec
	} else if err != api.ErrFull || len(x.l) != full || len(l) > 0 {
		t.Errorf("Put(%v, %d, %v): %v, %d", x.l, coll, r, l, err)
	}
	return err
}

// del deletes a row, and tells the error.
func (x *life) del(t *testing.T, coll int, id uint64) api.Errno {
	l, err := Del(x.l, api.Write{Coll: coll, Id: id, Vec: []int32{1}}, vecOf(x.rows[coll], id) != nil)
	_, isSeen := x.seen[coll][id]
	switch {
	case err == api.OK && isSeen:
		x.l = l
		delete(x.seen[coll], id)
	case err == api.ErrNone && !isSeen && len(l) == 0, err == api.ErrFull && isSeen && len(x.l) == full && len(l) == 0:
	default:
		t.Errorf("Del(%v, %d, %d): %v, %d", x.l, coll, id, l, err)
	}
	return err
}

// holds holds what is seen against what should be.
func (x *life) holds(t *testing.T) {
	t.Helper()
	if !wordedWrites(x.l) || Check(x.l) != api.OK {
		t.Errorf("%v may not be", x.l)
	}
	for coll, seen := range sight(t, x.l, x.rows) {
		if len(seen) != len(x.seen[coll]) {
			t.Errorf("%v: %v is seen, not %v", x.l, seen, x.seen[coll])
		}
		for _, r := range seen {
			if want, is := x.seen[coll][r.Id]; !is || !slices.Equal(r.Vec, want) {
				t.Errorf("%v: %v is seen, not %v", x.l, r, want)
			}
		}
	}
}

// P16.2 to P16.4: long lives of Puts and Dels, held against all that should be seen.
func TestLongLives(t *testing.T) {
	answered := map[api.Errno]int{}
	for seed := range uint64(60) {
		next := random(seed)
		x := newLife(someRows()[seed%4])
		for i := range 200 {
			coll, id := next(colls), uint64(2+next(10))
			if next(3) > 0 {
				answered[x.put(t, coll, row(id, int32(i), int32(seed)))]++
			} else {
				answered[x.del(t, coll, id)]++
			}
			x.holds(t)
		}
	}
	for _, err := range []api.Errno{api.OK, api.ErrNone, api.ErrFull} {
		if answered[err] < 100 {
			t.Errorf("%v", answered)
		}
	}
}
