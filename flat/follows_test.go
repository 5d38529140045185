package flat

import (
	"slices"
	"testing"

	"quiver/api"
)

// asked is an arena of one dimension, and a vector of that.
type asked struct {
	api.Arena
	vec []int32
}

// allAsked are some of each dimension: all slots are used, few, and some.
func allAsked() []asked {
	var l []asked
	for dim := 1; dim <= 4; dim++ {
		for _, v := range [][]int32{{0, 0, 0, 0}, {1, -2, 3, 0}, {most, least, 0, 5}} {
			for _, apart := range []int{1, 2, 9, 40} {
				l = append(l, asked{thinned(wide(dim), spread(dim, slots, apart)...), v[:dim]})
			}
		}
	}
	return l
}

// ask is what Scan answers of what it does not refuse.
func ask(t *testing.T, a api.Arena, m api.Mask, q api.Query) []api.Hit {
	t.Helper()
	got, err := Scan(a, m, q)
	if err != api.OK {
		t.Fatalf("Scan(%v, %v, %v): %d", a, m, q, err)
	}
	return got
}

// moved are the cells of an arena, and the slots of a mask, with each slot's cell in another one.
func moved(a api.Arena, m api.Mask, to func(slot int) int) (api.Arena, api.Mask) {
	b, in := laid(), []int(nil)
	for slot := range slots {
		b.Cells[to(slot)] = a.Cells[slot]
		if wordedHas(m, slot) {
			in = append(in, to(slot))
		}
	}
	return own(b), maskOf(in...)
}

// P11.5: the same cells in other slots are found the same.
func TestInOtherSlots(t *testing.T) {
	for _, x := range allAsked() {
		for _, m := range masks() {
			for _, k := range []int{1, 4, maxK} {
				q := query(k, x.vec...)
				want := ask(t, x.Arena, m, q)
				for _, to := range []func(slot int) int{
					func(slot int) int { return slots - 1 - slot },
					func(slot int) int { return (slot + 33) % slots },
					func(slot int) int { return slot * 37 % slots },
				} {
					a, in := moved(x.Arena, m, to)
					scans(t, a, in, q, want, api.OK)
				}
			}
		}
	}
}

// P11.5: what is found is what is found among the rows of these cells, in whatever order they stand.
func TestAmongTheRows(t *testing.T) {
	for _, x := range allAsked() {
		for _, m := range masks() {
			l := wordedIn(x.Arena, m)
			for k := 1; k <= maxK; k++ {
				q := query(k, x.vec...)
				want := ask(t, x.Arena, m, q)
				rows(t, l, q, want, api.OK)
				slices.Reverse(l)
				rows(t, l, q, want, api.OK)
				rows(t, slices.Concat(l[len(l)/3:], l[:len(l)/3]), q, want, api.OK)
			}
		}
	}
}

// P11.5: of two masks together it is the first K of what is found through each, but for what both have, which is there just once.
func TestTwoMasks(t *testing.T) {
	for _, x := range allAsked() {
		for _, pair := range [][2]api.Mask{
			{maskOf(spread(0, 64, 1)...), maskOf(spread(64, slots, 1)...)},
			{maskOf(spread(0, slots, 2)...), maskOf(spread(1, slots, 2)...)},
			{maskOf(spread(0, slots, 3)...), maskOf(spread(1, slots, 3)...)},
			{maskOf(63), maskOf(64)}, {maskOf(0), maskOf(95)},
			{maskOf(spread(0, 50, 1)...), api.Mask{}}, {{}, {}},
			{maskOf(spread(0, slots, 5)...), maskOf(spread(1, 128, 5)...)},
		} {
			for k := 1; k <= maxK; k++ {
				q := query(k, x.vec...)
				together := api.Mask{pair[0][0] | pair[1][0], pair[0][1] | pair[1][1]}
				scans(t, x.Arena, together, q, firstOf(k, ask(t, x.Arena, pair[0], q), ask(t, x.Arena, pair[1], q)), api.OK)
			}
		}
	}
}

// firstOf are the first k of both.
func firstOf(k int, a, b []api.Hit) []api.Hit {
	l := slices.Concat(a, b)
	slices.SortFunc(l, func(x, y api.Hit) int {
		if x.Dist < y.Dist || x.Dist == y.Dist && x.Id < y.Id {
			return -1
		}
		return 1
	})
	return l[:min(k, len(l))]
}

// P11.5: of two masks that overlap, or are equal, a cell that both have is found once, so that it is what the second one's other slots add to the first.
func TestTwoMasksThatOverlap(t *testing.T) {
	for _, x := range allAsked() {
		for _, pair := range [][2]api.Mask{
			{maskOf(spread(0, 70, 1)...), maskOf(spread(40, slots, 1)...)},
			{maskOf(spread(0, slots, 2)...), maskOf(spread(0, slots, 3)...)},
			{maskOf(spread(0, slots, 1)...), maskOf(spread(0, slots, 1)...)},
			{maskOf(spread(0, slots, 4)...), maskOf(spread(0, slots, 4)...)},
			{maskOf(spread(0, slots, 1)...), maskOf(63, 64)},
		} {
			a, b := pair[0], pair[1]
			together := api.Mask{a[0] | b[0], a[1] | b[1]}
			rest := api.Mask{b[0] &^ a[0], b[1] &^ a[1]}
			for k := 1; k <= maxK; k++ {
				q := query(k, x.vec...)
				scans(t, x.Arena, together, q, firstOf(k, ask(t, x.Arena, a, q), ask(t, x.Arena, rest, q)), api.OK)
				if a == b {
					scans(t, x.Arena, together, q, ask(t, x.Arena, a, q), api.OK)
				}
			}
		}
	}
}

// P11.5: nothing that is left out is nearer than what is found; and what is found is there, at its true distance, as often as it is there.
func TestNothingNearerIsLeftOut(t *testing.T) {
	for _, x := range allAsked() {
		for _, m := range masks() {
			l := wordedIn(x.Arena, m)
			for k := 1; k <= maxK; k++ {
				q := query(k, x.vec...)
				found := ask(t, x.Arena, m, q)
				if len(found) != min(k, len(l)) {
					t.Fatalf("%d of %d found, K %d", len(found), len(l), k)
				}
				out := slices.Clone(l)
				for _, hit := range found {
					place := slices.IndexFunc(out, func(r api.Row) bool { return r.Id == hit.Id && wordedDist(r.Vec, q.Vec) == hit.Dist })
					if place < 0 {
						t.Fatalf("%v is not there, or found too often", hit)
					}
					out = slices.Delete(out, place, place+1)
				}
				for _, r := range out {
					if wordedDist(r.Vec, q.Vec) < found[len(found)-1].Dist {
						t.Errorf("%v is left out of %v", r, found)
					}
				}
			}
		}
	}
}

// P11.5: with a greater K what was found stays, and more comes behind it.
func TestMoreBehind(t *testing.T) {
	for _, x := range allAsked() {
		for _, m := range masks() {
			most := ask(t, x.Arena, m, query(maxK, x.vec...))
			for k := 1; k <= maxK; k++ {
				scans(t, x.Arena, m, query(k, x.vec...), most[:min(k, len(most))], api.OK)
			}
		}
	}
}

// P11.4, P11.5: through the mask of what is visible just that is found.
func TestThroughVisible(t *testing.T) {
	a := laid(cell(7, 1, 4, 5), cell(7, 4, 9, 6), cell(2, 3, 0, 8), cell(5, 9, 0, 6))
	for _, c := range []struct {
		t    uint64
		want []api.Hit
	}{
		{0, nil}, {1, hits(7, 1)}, {3, hits(7, 1, 2, 4)}, {4, hits(7, 0, 2, 4)}, {8, hits(7, 0, 2, 4)}, {9, hits(5, 0, 2, 4)}, {last, hits(5, 0, 2, 4)},
	} {
		m, err := Visible(a, c.t)
		if err != api.OK {
			t.Fatal(err)
		}
		scans(t, a, m, query(5, 6), c.want, api.OK)
	}
}
