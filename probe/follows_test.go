package probe

import (
	"slices"
	"testing"

	"quiver/api"
	"quiver/arena"
	"quiver/flat"
	"quiver/lists"
	"quiver/vec"
)

// asked is an arena of one dimension, with which the lists agree, and a vector of that dimension.
type asked struct {
	a api.Arena
	l api.Lists
	v []int32
}

// allAsked are some of each dimension, by centroids of all kinds.
func allAsked() []asked {
	var l []asked
	for dim := 1; dim <= 4; dim++ {
		arenas := arenasOf(dim)
		for i, c := range goodCentroids(dim) {
			// Every other arena is one in which all slots are used.
			for j, a := range []api.Arena{arenas[i%len(arenas)], arenas[1+i%3]} {
				v := scattered(uint64(i), 1, dim, 9)[0]
				if i%2 == j {
					v = c[i%len(c)]
				}
				l = append(l, asked{a, wordedBuild(a, c), v})
			}
		}
	}
	return l
}

// someTimes are some at which few, many and no versions are visible.
func someTimes() []uint64 {
	return []uint64{0, 1, 9, 15, 25, 41, last}
}

// ask is what Search answers of what it does not refuse.
func ask(t *testing.T, a api.Arena, l api.Lists, p api.Probe) []api.Hit {
	t.Helper()
	got, err := Search(a, l, p)
	if err != api.OK {
		t.Fatalf("Search(%v, %v, %v): %d", used(a), l, p, err)
	}
	return got
}

// askRows is what Rows answers of what it does not refuse.
func askRows(t *testing.T, l []api.Row, c [][]int32, p api.Probe) []api.Hit {
	t.Helper()
	got, err := Rows(l, c, p)
	if err != api.OK {
		t.Fatalf("Rows(%v, %v, %v): %d", l, c, p, err)
	}
	return got
}

// P14.5: in an arena with which the lists agree, just what is found among the rows that are visible, in whatever order these stand.
func TestAmongTheVisible(t *testing.T) {
	found := 0
	for _, x := range allAsked() {
		if !lists.Agrees(x.l, x.a) {
			t.Fatalf("%v does not agree", x.l)
		}
		for _, ts := range someTimes() {
			l := rowsAt(x.a, wordedVisible(x.a, ts))
			for n := 1; n <= 7; n++ {
				for _, k := range []int{1, 4, maxK} {
					p := probing(k, n, ts, x.v...)
					want := askRows(t, l, x.l.Centroids, p)
					searches(t, x.a, x.l, p, want, api.OK)
					slices.Reverse(l)
					rows(t, l, x.l.Centroids, p, want, api.OK)
					found += len(want)
				}
			}
		}
	}
	if found < 10000 {
		t.Errorf("just %d found", found)
	}
}

// P14.5: with N at least how many lists there are: what flat finds, in the arena among what is visible, and among rows.
func TestOfAllLists(t *testing.T) {
	for _, x := range allAsked() {
		for _, ts := range someTimes() {
			seen, err := flat.Visible(x.a, ts)
			if err != api.OK {
				t.Fatal(err)
			}
			l := rowsAt(x.a, wordedVisible(x.a, ts))
			for _, k := range []int{1, 3, maxK} {
				want, err := flat.Scan(x.a, seen, api.Query{Vec: x.v, K: k})
				if err != api.OK {
					t.Fatal(err)
				}
				same, err := flat.Rows(l, api.Query{Vec: x.v, K: k})
				if err != api.OK {
					t.Fatal(err)
				}
				for _, n := range []int{len(x.l.Centroids), len(x.l.Centroids) + 1, maxLists, maxProbe} {
					searches(t, x.a, x.l, probing(k, n, ts, x.v...), want, api.OK)
					rows(t, l, x.l.Centroids, probing(k, n, 0, x.v...), same, api.OK)
				}
			}
		}
	}
}

// later tells whether something of less, that fewer lists have, comes later in more, or not at all.
func later(less, more []api.Hit) bool {
	for i, hit := range less {
		if i >= len(more) || vec.Compare(more[i], hit) > 0 {
			return true
		}
	}
	return false
}

// P14.5: with more lists the hit at each place is the same, or one ahead of it; by lists that do not agree, too.
func TestOfMoreLists(t *testing.T) {
	nearer, more := 0, 0
	for i, x := range allAsked() {
		for _, ts := range someTimes() {
			for _, k := range []int{1, 4, maxK} {
				visible := rowsAt(x.a, wordedVisible(x.a, ts))
				out := sharedOut(uint64(i), x.l.Centroids)
				var was, wasOut, wasRows []api.Hit
				for n := 1; n <= len(x.l.Centroids)+1; n++ {
					p := probing(k, n, ts, x.v...)
					in, inOut, inRows := ask(t, x.a, x.l, p), ask(t, x.a, out, p), askRows(t, visible, x.l.Centroids, p)
					if later(was, in) || later(wasOut, inOut) || later(wasRows, inRows) {
						t.Errorf("%v of %v, %v: %v behind %v, %v behind %v, %v behind %v", p, used(x.a), x.l, in, was, inOut, wasOut, inRows, wasRows)
					}
					if n > 1 && len(was) > 0 && was[0] != in[0] {
						nearer++
					}
					more += len(in) - len(was)
					was, wasOut, wasRows = in, inOut, inRows
				}
			}
		}
	}
	if nearer < 100 || more < 1000 {
		t.Errorf("just %d times was there a nearer one, and %d more", nearer, more)
	}
}

// P14.5: each hit is that of a visible version, at its true distance, as often as there is such a one; and nothing that is left out of the lists that are asked is nearer.
func TestTrueHits(t *testing.T) {
	for i, x := range allAsked() {
		for _, l := range []api.Lists{x.l, sharedOut(uint64(i), x.l.Centroids), listed(x.l.Centroids, allSlots())} {
			for _, ts := range someTimes() {
				for n := 1; n <= len(x.l.Centroids); n++ {
					p := probing(1+(i+n)%maxK, n, ts, x.v...)
					found := ask(t, x.a, l, p)
					out := rowsAt(x.a, wordedLooked(x.a, l, p))
					if len(found) != min(p.Query.K, len(out)) {
						t.Fatalf("%d of %d found, K %d", len(found), len(out), p.Query.K)
					}
					for _, hit := range found {
						place := slices.IndexFunc(out, func(r api.Row) bool { return r.Id == hit.Id && wordedDist(r.Vec, x.v) == hit.Dist })
						if place < 0 {
							t.Fatalf("%v is not there, or found too often", hit)
						}
						out = slices.Delete(out, place, place+1)
					}
					for _, r := range out {
						if wordedDist(r.Vec, x.v) < found[len(found)-1].Dist {
							t.Errorf("%v is left out of %v", r, found)
						}
					}
				}
			}
		}
	}
}

// P14.2, P14.5: the places are what they are with fewer, and one more behind them; none is nearer than one that stands ahead of it.
func TestNearestOfMore(t *testing.T) {
	for _, x := range allAsked() {
		c := x.l.Centroids
		var was []int
		for n := 1; n <= len(c); n++ {
			got, err := Nearest(c, x.v, n)
			if err != api.OK || len(got) != n || !slices.Equal(got[:n-1], was) || slices.Contains(was, got[n-1]) {
				t.Fatalf("Nearest(%v, %v, %d): %v, %d, behind %v", c, x.v, n, got, err, was)
			}
			if n > 1 && wordedDist(c[got[n-1]], x.v) < wordedDist(c[got[n-2]], x.v) {
				t.Errorf("Nearest(%v, %v, %d): %v", c, x.v, n, got)
			}
			was = got
		}
		first, err := vec.Nearest(c, x.v)
		if err != api.OK || first != was[0] {
			t.Errorf("%v, %v: %d first, not %d", c, x.v, was[0], first)
		}
	}
}

// P14.5: a probe of fewer lists misses a near row of another list, one of all does not.
func TestMissed(t *testing.T) {
	a := laid(at(1, 2), at(2, 6), at(3, 30))
	l := wordedBuild(a, ones(0, 10, 20))
	searches(t, a, l, probing(2, 1, 1, 5), hits(1, 9), api.OK)
	searches(t, a, l, probing(2, 2, 1, 5), hits(2, 1, 1, 9), api.OK)
	searches(t, a, l, probing(3, 3, 1, 5), hits(2, 1, 1, 9, 3, 625), api.OK)
}

// P14.5: through a life of Puts, Ends and Drops, with lists that go along, Search finds what is found among the rows of the time.
func TestAlongALife(t *testing.T) {
	for dim := 1; dim <= 4; dim++ {
		c := scattered(uint64(dim), 5, dim, 20)
		a, l := arena.New(), listed(c)
		next := random(uint64(dim))
		for ts := uint64(1); ts < 120; ts++ {
			var err api.Errno
			slot := next(slots)
			switch {
			case a.Cells[slot].Used && a.Cells[slot].Version.End == 0:
				a, err = arena.End(a, slot, ts+1)
			case a.Cells[slot].Used:
				a, err = arena.Drop(a, slot)
				if err == api.OK {
					l, err = lists.Remove(l, slot)
				}
			case arena.Free(a) > 0:
				v := scattered(ts, 1, dim, 20)[0]
				a, slot, err = arena.Put(a, uint64(next(30)), api.Version{Begin: ts, Vec: v})
				if err == api.OK {
					l, err = lists.Add(l, slot, v)
				}
			}
			if err != api.OK {
				t.Fatal(err)
			}
			for _, p := range []api.Probe{probing(5, 1+next(6), ts, scattered(ts+500, 1, dim, 20)[0]...), probing(maxK, 2, uint64(next(130)), make([]int32, dim)...)} {
				want, err := wordedRows(rowsAt(a, wordedVisible(a, p.Ts)), c, p)
				searches(t, a, l, p, want, err)
			}
		}
	}
}
