package writes

import (
	"math"
	"slices"
	"testing"

	"quiver/api"
)

// P16.2, P16.3: the chapter's examples.
func TestExamples(t *testing.T) {
	rows := rowsOf(3, 1, 5, 2)
	written := []api.Write{put(0, 5, 7)}
	puts(t, nil, 0, row(5, 7), written, api.OK)
	overlays(t, written, 0, rows, rowsOf(3, 1, 5, 7), api.OK)
	dels(t, written, gone(0, 5), true, []api.Write{gone(0, 5)}, api.OK)
	overlays(t, []api.Write{gone(0, 5)}, 0, rows, rowsOf(3, 1), api.OK)
	puts(t, nil, 0, row(9, 7), []api.Write{put(0, 9, 7)}, api.OK)
	dels(t, []api.Write{put(0, 9, 7)}, gone(0, 9), false, nil, api.OK)
	dels(t, nil, gone(0, 9), false, nil, api.ErrNone)
	puts(t, nil, 3, row(5, 7), nil, api.ErrArg)
}

// P16.3: each of a few lists, over each of a few sets of rows, in each collection.
func TestOverlayAsWorded(t *testing.T) {
	few, all := goodRows(), small()
	for i, l := range all {
		for j, rows := range few {
			if (i+j)%3 > 0 {
				continue
			}
			for coll := range colls {
				if err := overlayAsWorded(t, l, coll, rows); err != api.OK {
					t.Errorf("Overlay(%v, %d, %v): %d", l, coll, rows, err)
				}
			}
		}
	}
	for _, l := range goodLists() {
		for _, rows := range [][]api.Row{nil, {}, rowsOf(0, 1, 10, 2, 30, 3, 35, 4, 120, 5, 999, 6), {row(0, 1), row(1<<31, 5), row(1<<63, 6), row(greatest, 2, 3)}} {
			for coll := -1; coll <= colls; coll++ {
				overlayAsWorded(t, l, coll, rows)
			}
		}
	}
}

// P16.3: written out: writes ahead of, among and behind the rows, that are put and gone, of rows that are there and that are not.
func TestOverlayEdges(t *testing.T) {
	rows := rowsOf(3, 1, 5, 2, 8, 3)
	for _, x := range []struct {
		l    []api.Write
		want []api.Row
	}{
		{nil, rows},
		{[]api.Write{put(0, 2, 7)}, rowsOf(2, 7, 3, 1, 5, 2, 8, 3)},
		{[]api.Write{put(0, 0, 7)}, rowsOf(0, 7, 3, 1, 5, 2, 8, 3)},
		{[]api.Write{put(0, 4, 7)}, rowsOf(3, 1, 4, 7, 5, 2, 8, 3)},
		{[]api.Write{put(0, 9, 7)}, rowsOf(3, 1, 5, 2, 8, 3, 9, 7)},
		{[]api.Write{put(0, 3, 7)}, rowsOf(3, 7, 5, 2, 8, 3)},
		{[]api.Write{put(0, 5, 7)}, rowsOf(3, 1, 5, 7, 8, 3)},
		{[]api.Write{put(0, 8, 7)}, rowsOf(3, 1, 5, 2, 8, 7)},
		{[]api.Write{put(0, 5, 2)}, rows},
		{[]api.Write{gone(0, 3)}, rowsOf(5, 2, 8, 3)},
		{[]api.Write{gone(0, 5)}, rowsOf(3, 1, 8, 3)},
		{[]api.Write{gone(0, 8)}, rowsOf(3, 1, 5, 2)},
		{[]api.Write{gone(0, 3), gone(0, 5), gone(0, 8)}, nil},
		{[]api.Write{gone(0, 3), put(0, 4, 7), gone(0, 5), gone(0, 8)}, rowsOf(4, 7)},
		{[]api.Write{gone(0, 2), gone(0, 4), gone(0, 9)}, rows},
		{[]api.Write{put(0, 2, 6), gone(0, 3), gone(0, 4), put(0, 5, 7), put(0, 6, 8), put(0, 10, 9)}, rowsOf(2, 6, 5, 7, 6, 8, 8, 3, 10, 9)},
		{[]api.Write{put(1, 3, 7), put(1, 4, 7), gone(2, 5)}, rows},
		{[]api.Write{gone(0, 3), put(1, 3, 7), put(2, 3, 8), gone(2, 5)}, rowsOf(5, 2, 8, 3)},
	} {
		overlays(t, x.l, 0, rows, x.want, api.OK)
	}
	overlays(t, []api.Write{put(0, 5, 7), gone(0, 6)}, 0, nil, rowsOf(5, 7), api.OK)
	overlays(t, []api.Write{put(0, 5, 7), gone(0, 6)}, 0, []api.Row{}, rowsOf(5, 7), api.OK)
	overlays(t, []api.Write{put(0, 5, 7), gone(0, 6)}, 1, nil, nil, api.OK)
	overlays(t, nil, 2, nil, nil, api.OK)
	overlays(t, []api.Write{put(1, 0, 7), put(1, greatest, 8)}, 1, []api.Row{row(0, 1), row(1<<63, 2, 3), row(greatest, 4)}, []api.Row{row(0, 7), row(1<<63, 2, 3), row(greatest, 8)}, api.OK)
	overlays(t, []api.Write{put(0, 5, 7, 8)}, 0, rows, []api.Row{row(3, 1), row(5, 7, 8), row(8, 3)}, api.OK)
}

// P16.3: many rows, more than writes, hits and versions there may be.
func TestOverlayManyRows(t *testing.T) {
	var rows []api.Row
	for i := range 1000 {
		rows = append(rows, row(uint64(3*i), int32(i), -9))
	}
	for _, l := range append(fullLists(), nil) {
		for coll := range colls {
			overlayAsWorded(t, Of(l, coll), coll, rows)
		}
	}
}

// P16.3: rows that may not be, whatever is written; not even of rows that are gone, or put anew.
func TestOverlayBadRows(t *testing.T) {
	for _, l := range [][]api.Write{nil, {put(1, 5, 7)}, {put(0, 1, 7)}, {gone(0, 1), gone(0, 3), gone(0, 5)}, {put(0, 1, 7), put(0, 3, 8), put(0, 5, 9)}, numbered(full, 0)} {
		for _, rows := range badRows() {
			if wordedRows(rows) {
				t.Fatalf("%v", rows)
			}
			overlays(t, l, 0, rows, nil, api.ErrRow)
			overlays(t, l, 2, rows, nil, api.ErrRow)
		}
	}
}

// P16.3: there is no such collection.
func TestOverlayNoCollection(t *testing.T) {
	for _, l := range slices.Concat([][]api.Write{nil}, each(gone(0, 3), gone(1, 3), gone(2, 3)), fullLists()) {
		for _, coll := range append(badColls(), -1, 3, math.MinInt, math.MaxInt) {
			overlays(t, l, coll, rowsOf(3, 1), nil, api.ErrArg)
			overlays(t, l, coll, nil, nil, api.ErrArg)
		}
	}
}

// P16.3: writes that may not be, though those of the collection may.
func TestOverlayBadWrites(t *testing.T) {
	for _, l := range badLists() {
		for coll := range colls {
			overlays(t, l, coll, rowsOf(3, 1, 5, 2), nil, api.ErrWrites)
			overlays(t, l, coll, nil, nil, api.ErrWrites)
		}
	}
}

// P16.3, R2: of two errors the first one is answered.
func TestOverlayTwoErrors(t *testing.T) {
	for _, l := range [][]api.Write{{put(0, 5)}, {gone(0, 5), gone(0, 5)}, numbered(full+1, 0)} {
		overlays(t, l, -1, rowsOf(3, 1), nil, api.ErrWrites)
		overlays(t, l, 3, rowsOf(3, 1), nil, api.ErrWrites)
		overlays(t, l, 0, []api.Row{row(3)}, nil, api.ErrWrites)
		overlays(t, l, 0, rowsOf(3, 1, 3, 1), nil, api.ErrWrites)
		overlays(t, l, 3, []api.Row{row(3)}, nil, api.ErrWrites)
	}
	for _, rows := range [][]api.Row{{row(3)}, rowsOf(3, 1, 3, 1), rowsOf(3, 1, 2, 1), {row(3, most+1)}} {
		overlays(t, nil, -1, rows, nil, api.ErrArg)
		overlays(t, nil, 3, rows, nil, api.ErrArg)
		overlays(t, numbered(full, 0), 3, rows, nil, api.ErrArg)
	}
}
