package lists

import (
	"slices"
	"testing"

	"quiver/api"
	"quiver/arena"
)

// must is what comes of a call that is not refused.
func must[T any](t *testing.T, got T, err api.Errno) T {
	t.Helper()
	if err != api.OK {
		t.Fatalf("%d", err)
	}
	return got
}

// mustBuild is what Build answers of what it does not refuse.
func mustBuild(t *testing.T, a api.Arena, c [][]int32) api.Lists {
	t.Helper()
	l, err := Build(a, c)
	return must(t, l, err)
}

// mustAdd is what Add answers of what it does not refuse.
func mustAdd(t *testing.T, l api.Lists, slot int, v []int32) api.Lists {
	t.Helper()
	l, err := Add(l, slot, v)
	return must(t, l, err)
}

// mustRemove is what Remove answers of what it does not refuse.
func mustRemove(t *testing.T, l api.Lists, gone ...int) api.Lists {
	t.Helper()
	l, err := Remove(l, gone...)
	return must(t, l, err)
}

// mustUnion is what Union answers of what it does not refuse.
func mustUnion(t *testing.T, l api.Lists, places ...int) api.Mask {
	t.Helper()
	m, err := Union(l, places...)
	return must(t, m, err)
}

// P13.5: what comes may be, whatever is done, one behind the other; and what is refused may be, too: there is nothing.
func TestWhatComesMayBe(t *testing.T) {
	for i, l := range goodLists() {
		next := random(uint64(i))
		for range 150 {
			var come api.Lists
			var err api.Errno
			if next(3) > 0 {
				dim := 1 + next(4)
				if len(l.Centroids) > 0 && next(9) > 0 {
					dim = len(l.Centroids[0])
				}
				come, err = Add(l, next(slots+2)-1, scattered(uint64(next(1<<20)), 1, dim, 50)[0])
			} else {
				come, err = Remove(l, next(slots+1), next(slots+1))
			}
			checks(t, come, api.OK)
			if !wordedLists(come) {
				t.Errorf("%v may not be", come)
			}
			if err == api.OK {
				l = come
			}
		}
	}
	for dim := 1; dim <= 4; dim++ {
		for _, a := range goodArenas() {
			for _, c := range goodCentroids(dim) {
				l, _ := Build(a, c)
				checks(t, l, api.OK)
			}
		}
	}
}

// P13.5: what Build answers agrees with the arena, and is the same when all its vectors are added one by one, in whatever order.
func TestBuildAgrees(t *testing.T) {
	for dim := 1; dim <= 4; dim++ {
		all := wide(dim, 40)
		for _, a := range []api.Arena{laid(), all, thinned(all, spread(0, slots, 2)...), thinned(all, spread(1, slots, 7)...), thinned(all, 0, 63, 64, 95)} {
			for _, c := range append(goodCentroids(dim), nil) {
				l := mustBuild(t, a, c)
				agrees(t, l, a, true)
				for _, step := range []int{1, 37, 95} {
					one := listed(c)
					for i := range slots {
						if slot := i * step % slots; a.Cells[slot].Used {
							one = mustAdd(t, one, slot, a.Cells[slot].Version.Vec)
						}
					}
					if !Same(one, l) {
						t.Errorf("%v, one by one %v", l, one)
					}
				}
			}
		}
	}
}

// life does n things to an arena, one behind the other, and the same to lists: it puts a version of that dimension, or drops some.
func life(t *testing.T, a api.Arena, l api.Lists, dim, n int, next func(bound int) int) (api.Arena, api.Lists) {
	t.Helper()
	for range n {
		var used []int
		for slot, c := range a.Cells {
			if c.Used {
				used = append(used, slot)
			}
		}
		if len(used) < slots && (len(used) == 0 || next(5) > 1) {
			v := scattered(uint64(next(1<<30)), 1, dim, 30)[0]
			b, slot, err := arena.Put(a, uint64(next(9)), api.Version{Begin: uint64(1 + next(99)), Vec: v})
			a, l = must(t, b, err), mustAdd(t, l, slot, v)
		} else {
			var gone []int
			for _, slot := range used {
				if len(gone) == 0 || next(8) == 0 {
					gone = append(gone, slot)
				}
			}
			b, err := arena.Drop(a, gone...)
			a, l = must(t, b, err), mustRemove(t, l, gone...)
		}
		agrees(t, l, a, true)
		if built := mustBuild(t, a, l.Centroids); !Same(l, built) {
			t.Errorf("%v, not %v", l, built)
		}
	}
	return a, l
}

// P13.5: Add of what a Put laid, and Remove of what a Drop lets go, agree again, through long lives, without centroids too.
func TestLives(t *testing.T) {
	for dim := 1; dim <= 4; dim++ {
		for i, c := range append(goodCentroids(dim), nil) {
			next := random(uint64(100*dim + i))
			a, l := life(t, laid(), listed(c), dim, 60, next)
			full := wide(dim, 30)
			life(t, full, mustBuild(t, full, c), dim, 15, next)
			// An End changes no vector, so that lists agree as before.
			for slot, x := range a.Cells {
				if x.Used {
					ended, err := arena.End(a, slot, x.Version.Begin+1)
					agrees(t, l, must(t, ended, err), true)
				}
			}
		}
	}
}

// P13.5: what a Put laid does not agree till it is added, what a Drop lets go not till it is removed.
func TestAgreeAgain(t *testing.T) {
	for dim := 1; dim <= 4; dim++ {
		c := scattered(8, 5, dim, 30)
		a := thinned(wide(dim, 30), spread(0, slots, 3)...)
		l := mustBuild(t, a, c)
		for range 40 {
			v := scattered(uint64(arena.Free(a)), 1, dim, 30)[0]
			b, slot, err := arena.Put(a, 5, api.Version{Begin: 4, Vec: v})
			a = must(t, b, err)
			agrees(t, l, a, false)
			l = mustAdd(t, l, slot, v)
			agrees(t, l, a, true)
		}
		for slot, x := range a.Cells {
			if x.Used {
				b, err := arena.Drop(a, slot)
				a = must(t, b, err)
				agrees(t, l, a, false)
				l = mustRemove(t, l, slot)
				agrees(t, l, a, true)
			}
		}
		if !Same(l, listed(c)) {
			t.Errorf("%v", l)
		}
	}
}

// P13.3, P13.5: what is added is where its vector belongs, and no other slot comes or goes; removed again it leaves what was.
func TestAddedAndRemoved(t *testing.T) {
	for _, l := range goodLists() {
		for slot := range slots {
			before, was := Where(l, slot)
			gone := mustRemove(t, l, slot)
			isAt(t, gone, slot, 0, false)
			if len(l.Centroids) == 0 {
				continue
			}
			v := l.Centroids[slot%len(l.Centroids)]
			added := mustAdd(t, gone, slot, v)
			place := wordedNearest(l.Centroids, v)
			isAt(t, added, slot, place, true)
			if was && place == before && !Same(added, l) || !was && !Same(gone, l) {
				t.Errorf("%v: %d, gone and added again, leaves %v", l, slot, added)
			}
			if again := mustRemove(t, added, slot); !Same(again, gone) {
				t.Errorf("%v: %d, added and gone again, leaves %v", gone, slot, again)
			}
			for _, other := range append(edgeSlots(), slot+1, slot-1, slots-1-slot) {
				if other != slot {
					place, there := Where(l, other)
					isAt(t, gone, other, place, there)
					isAt(t, added, other, place, there)
				}
			}
		}
	}
}

// P13.3: slots that go together go as they do one by one, in whatever order.
func TestRemovedOneByOne(t *testing.T) {
	for i, l := range goodLists() {
		next := random(uint64(i))
		for range 5 {
			var gone []int
			one, back := l, l
			for range next(30) {
				gone = append(gone, next(slots))
				one = mustRemove(t, one, gone[len(gone)-1])
			}
			slices.Reverse(gone)
			for _, slot := range gone {
				back = mustRemove(t, back, slot)
			}
			if all := mustRemove(t, l, gone...); !Same(all, one) || !Same(all, back) {
				t.Errorf("%v: of %v %v, %v, %v", l, gone, all, one, back)
			}
		}
	}
}

// P13.5: the Union of all lists has each slot that is in one, and no other; that of one list has those which Where tells there.
func TestUnionOfAll(t *testing.T) {
	for _, l := range goodLists() {
		all := mustUnion(t, l, spread(0, len(l.Centroids), 1)...)
		for slot := range slots {
			place, there := Where(l, slot)
			if wordedHas(all, slot) != there {
				t.Errorf("%v: %d", l, slot)
			}
			for other := range l.Centroids {
				if wordedHas(mustUnion(t, l, other), slot) != (there && place == other) {
					t.Errorf("%v: %d at %d", l, slot, other)
				}
			}
		}
	}
}

// P13.5: the Unions of parts of the places add up to that of all of them, and have nothing in common if the parts have not.
func TestUnionOfParts(t *testing.T) {
	for _, l := range goodLists() {
		all := spread(0, len(l.Centroids), 1)
		for _, part := range subsets(len(all)) {
			rest := slices.DeleteFunc(slices.Clone(all), func(place int) bool { return slices.Contains(part, place) })
			a, b := mustUnion(t, l, part...), mustUnion(t, l, rest...)
			unites(t, l, all, api.Mask{a[0] | b[0], a[1] | b[1]}, api.OK)
			if a[0]&b[0] != 0 || a[1]&b[1] != 0 {
				t.Errorf("%v: %v and %v have slots in common", l, part, rest)
			}
			half := append(slices.Clone(part[:len(part)/2]), rest...)
			c := mustUnion(t, l, half...)
			unites(t, l, slices.Concat(part, half), api.Mask{a[0] | c[0], a[1] | c[1]}, api.OK)
		}
	}
}
