package writes

import (
	"math"
	"slices"
	"testing"

	"quiver/api"
)

// P16.1: writes that may be.
func TestCheckGood(t *testing.T) {
	checks(t, nil, api.OK)
	for _, l := range goodLists() {
		if !wordedWrites(l) {
			t.Fatalf("%v", l)
		}
		checks(t, l, api.OK)
	}
}

// P16.1: writes that may not be.
func TestCheckBad(t *testing.T) {
	for _, l := range badLists() {
		if wordedWrites(l) {
			t.Fatalf("%v", l)
		}
		checks(t, l, api.ErrWrites)
	}
}

// P16.1: how many there may be, written out.
func TestCheckHowMany(t *testing.T) {
	checks(t, []api.Write{}, api.OK)
	checks(t, []api.Write{put(0, 5, 7)}, api.OK)
	for coll := range colls {
		checks(t, numbered(11, coll), api.OK)
		checks(t, numbered(12, coll), api.OK)
		checks(t, numbered(13, coll), api.ErrWrites)
	}
	checks(t, spread(4, 4, 4), api.OK)
	checks(t, spread(4, 4, 5), api.ErrWrites)
	checks(t, spread(5, 4, 4), api.ErrWrites)
	checks(t, spread(12, 1, 0), api.ErrWrites)
	checks(t, spread(12, 12, 12), api.ErrWrites)
}

// P16.1: one write: its collection and its Id at each edge.
func TestCheckOneRow(t *testing.T) {
	for _, id := range edgeIds() {
		for _, coll := range []int{0, 1, 2} {
			checks(t, []api.Write{put(coll, id, 7)}, api.OK)
			checks(t, []api.Write{gone(coll, id)}, api.OK)
		}
		for _, coll := range append(badColls(), -1, 3, math.MinInt, math.MaxInt) {
			checks(t, []api.Write{put(coll, id, 7)}, api.ErrWrites)
			checks(t, []api.Write{gone(coll, id)}, api.ErrWrites)
		}
	}
}

// P16.1: one write: that is Gone, with a vector or without, and that is not, with each vector.
func TestCheckOneVector(t *testing.T) {
	write := func(isGone bool, v []int32) []api.Write {
		return []api.Write{{Coll: 1, Id: 5, Gone: isGone, Vec: v}}
	}
	checks(t, write(true, nil), api.OK)
	checks(t, write(true, []int32{}), api.OK)
	checks(t, write(true, []int32{7, 8}[:0]), api.OK)
	checks(t, write(true, []int32{0}), api.ErrWrites)
	checks(t, write(false, nil), api.ErrWrites)
	checks(t, write(false, []int32{}), api.ErrWrites)
	checks(t, write(false, []int32{0}), api.OK)
	checks(t, write(false, []int32{1, 2, 3, 4}), api.OK)
	checks(t, write(false, []int32{1, 2, 3, 4, 5}), api.ErrWrites)
	checks(t, write(false, []int32{most, least}), api.OK)
	checks(t, write(false, []int32{most + 1, least}), api.ErrWrites)
	checks(t, write(false, []int32{most, least - 1}), api.ErrWrites)
	for _, v := range goodVecs() {
		checks(t, write(false, v), api.OK)
		checks(t, write(true, v), api.ErrWrites)
	}
	for _, v := range badVecs() {
		checks(t, write(false, v), api.ErrWrites)
		if len(v) > 0 {
			checks(t, write(true, v), api.ErrWrites)
		}
	}
}

// P16.1: the order, written out: by Coll, then by Id, none twice of one row; vectors of unlike dimensions are no matter.
func TestCheckOrder(t *testing.T) {
	for _, x := range []struct {
		a, b api.Write
		want api.Errno
	}{
		{put(0, 5, 7), put(0, 6, 7), api.OK},
		{put(0, 6, 7), put(0, 5, 7), api.ErrWrites},
		{put(0, 5, 7), put(0, 5, 7), api.ErrWrites},
		{put(0, 5, 7), put(0, 5, 8), api.ErrWrites},
		{put(0, 5, 7), gone(0, 5), api.ErrWrites},
		{gone(0, 5), put(0, 5, 7), api.ErrWrites},
		{gone(0, 5), gone(0, 5), api.ErrWrites},
		{put(0, 9, 7), put(1, 5, 7), api.OK},
		{put(0, 5, 7), put(1, 5, 7), api.OK},
		{put(1, 5, 7), put(0, 9, 7), api.ErrWrites},
		{put(1, 5, 7), put(0, 5, 7), api.ErrWrites},
		{put(0, greatest, 7), put(2, 0, 7), api.OK},
		{put(2, 0, 7), put(0, greatest, 7), api.ErrWrites},
		{put(1, 0, 7), put(1, greatest, 7), api.OK},
		{put(1, greatest, 7), put(1, 0, 7), api.ErrWrites},
		{put(1, 1<<63-1, 7), put(1, 1<<63, 7), api.OK},
		{put(1, 1<<63, 7), put(1, 1, 7), api.ErrWrites},
		{put(1, 2, 7), put(1, 1<<32, 7), api.OK},
		{put(1, 1<<32, 7), put(1, 2, 7), api.ErrWrites},
		{put(0, 5, 7), put(0, 6, 7, 8), api.OK},
		{put(0, 5, 7, 8, 9), gone(0, 6), api.OK},
	} {
		checks(t, []api.Write{x.a, x.b}, x.want)
	}
}

// P16.1: all rows of up to three writes of a few.
func TestCheckAllOfAFew(t *testing.T) {
	few := []api.Write{put(0, 3, 1), gone(0, 3), put(0, greatest, 1), gone(1, 0), put(1, 3, 1, 2), put(2, 0, 1), gone(2, 4), put(2, 4, 1), put(3, 5, 1), gone(-1, 2), put(0, 4), put(1, 7, most+1)}
	good := 0
	lists := [][]api.Write{nil}
	for i := 0; i < len(lists); i++ {
		want := api.ErrWrites
		if wordedWrites(lists[i]) {
			want = api.OK
			good++
		}
		checks(t, lists[i], want)
		if len(lists[i]) < 3 {
			for _, w := range few {
				lists = append(lists, append(slices.Clone(lists[i]), w))
			}
		}
	}
	if good < 50 {
		t.Errorf("just %d of them may be", good)
	}
}

// P16.1: what stands in the room behind the end is not of the writes.
func TestCheckRoom(t *testing.T) {
	l := numbered(full+1, 0)
	checks(t, l, api.ErrWrites)
	checks(t, l[:full], api.OK)
	checks(t, l[:0], api.OK)
	bad := []api.Write{put(0, 5, 7), put(0, 5, 7)}
	checks(t, bad[:1], api.OK)
	checks(t, bad, api.ErrWrites)
}

// same holds what Same answers, both ways.
func same(t *testing.T, a, b []api.Write, want bool) {
	t.Helper()
	if Same(a, b) != want || Same(b, a) != want {
		t.Errorf("Same(%v, %v): not %v", a, b, want)
	}
}

// P16.1: all writes are the same as themselves, and as ones with memory of their own; whether they may be or not.
func TestSameAsItself(t *testing.T) {
	for _, l := range slices.Concat(goodLists(), badLists()) {
		same(t, l, l, true)
		same(t, l, ownWrites(l), true)
	}
	same(t, nil, nil, true)
	same(t, nil, []api.Write{}, true)
	same(t, []api.Write{{}}, []api.Write{{Vec: []int32{}}}, true)
	same(t, []api.Write{gone(1, 5)}, []api.Write{{Coll: 1, Id: 5, Gone: true, Vec: []int32{}}}, true)
	same(t, []api.Write{put(0, 5, 7, 8)}, []api.Write{{Id: 5, Vec: []int32{7, 8, 9}[:2]}}, true)
}

// P16.1: of these no two are the same.
func TestSameNot(t *testing.T) {
	l := each(gone(0, 3), gone(0, 5), gone(1, 5), gone(2, 3))
	for i, a := range l {
		for j, b := range l {
			if Same(a, b) != (i == j) {
				t.Errorf("Same(%v, %v): not %v", a, b, i == j)
			}
		}
	}
	same(t, []api.Write{put(0, 3, 7), put(0, 5, 8)}, []api.Write{put(0, 5, 8), put(0, 3, 7)}, false)
	same(t, nil, []api.Write{{}}, false)
}

// P16.1: writes that differ in one field alone, in one component, in a vector's length, in how many they are, at each place.
func TestSameButForOne(t *testing.T) {
	changes := []func(w *api.Write){
		func(w *api.Write) { w.Coll++ },
		func(w *api.Write) { w.Coll-- },
		func(w *api.Write) { w.Coll += 1 << 32 },
		func(w *api.Write) { w.Coll += math.MinInt },
		func(w *api.Write) { w.Id++ },
		func(w *api.Write) { w.Id += 1 << 32 },
		func(w *api.Write) { w.Id += 1 << 63 },
		func(w *api.Write) { w.Gone = !w.Gone },
		func(w *api.Write) { w.Vec[0]++ },
		func(w *api.Write) { w.Vec[1]-- },
		func(w *api.Write) { w.Vec[2] += 1 << 16 },
		func(w *api.Write) { w.Vec[0], w.Vec[1] = w.Vec[1], w.Vec[0] },
		func(w *api.Write) { w.Vec = w.Vec[:2] },
		func(w *api.Write) { w.Vec = w.Vec[1:] },
		func(w *api.Write) { w.Vec = append(w.Vec, 0) },
		func(w *api.Write) { w.Vec = nil },
	}
	for i, n := range []int{1, 2, 3, full, full + 1, 1, 2, full} {
		var l []api.Write
		for j := range n {
			// The last few are gone and have vectors all the same: none of them may be, and each field counts.
			l = append(l, api.Write{Coll: 1, Id: uint64(10 * j), Gone: i > 4, Vec: []int32{5, 6, 7}})
		}
		for place := range n {
			for _, change := range changes {
				other := ownWrites(l)
				change(&other[place])
				same(t, l, other, false)
			}
			same(t, l, slices.Delete(ownWrites(l), place, place+1), false)
			same(t, l, l[:place], false)
			same(t, l, slices.Insert(ownWrites(l), place, l[place]), false)
		}
	}
}
