package topk

import (
	"math"
	"slices"
	"testing"

	"quiver/api"
)

// shuffled is l in an order that hangs on the seed.
func shuffled(l []api.Hit, seed uint64) []api.Hit {
	m := slices.Clone(l)
	for i, hit := range mixed(seed, len(m), math.MaxUint32) {
		j := int(hit.Dist % uint64(i+1))
		m[i], m[j] = m[j], m[i]
	}
	return m
}

// offered is what comes of the rows, offered one behind the other to a selection without hits.
func offered(t *testing.T, k int, rows ...[]api.Hit) []api.Hit {
	t.Helper()
	top, err := New(k)
	for _, row := range rows {
		if err == api.OK {
			top, err = Offer(top, row...)
		}
	}
	if err != api.OK || top.K != k || Check(top) != api.OK {
		t.Fatalf("%d, %v: %v, %d", k, rows, top, err)
	}
	return top.Hits
}

// samples are hits with many that are the same, and with few.
func samples() [][]api.Hit {
	return [][]api.Hit{nil, at(3, 4), mixed(1, 5, 3), mixed(2, 16, 100), mixed(3, 17, 4), mixed(4, 60, 8), mixed(5, 300, 1<<20), edgeHits()}
}

// P6.4: the first k hang on no order of the hits, and on none of the rows.
func TestInAnotherOrder(t *testing.T) {
	for _, l := range samples() {
		for k := 1; k <= api.MaxK; k++ {
			want := worded(k, l)
			for seed := range uint64(8) {
				m := shuffled(l, seed)
				rows := parted(m, 1+int(seed))
				merges(t, k, rows, want)
				slices.Reverse(rows)
				merges(t, k, rows, want)
				offers(t, api.Top{K: k}, m, want)
			}
		}
	}
}

// P6.4: each order of a few hits, some of which are the same.
func TestInEachOrder(t *testing.T) {
	for _, l := range [][]api.Hit{at(1, 1, 2, 1, 1, 2, 2, 2, 1, 1, 0, 3), at(0, 0, 0, 0, 0, 1, 1, 0, 1, 1), counted(1, 6)} {
		each(l, 0, func(m []api.Hit) {
			for k := 1; k <= len(l)+1; k++ {
				merges(t, k, [][]api.Hit{m}, worded(k, l))
				merges(t, k, parted(m, 2), worded(k, l))
			}
		})
	}
}

// each tells each order of what stands in l from the place on; l is as it was at the end.
func each(l []api.Hit, from int, tell func(m []api.Hit)) {
	if from == len(l) {
		tell(l)
		return
	}
	for i := from; i < len(l); i++ {
		l[from], l[i] = l[i], l[from]
		each(l, from+1, tell)
		l[from], l[i] = l[i], l[from]
	}
}

// P6.4: the first k of rows are the first k of the first k of each, and of whatever is at least as many.
func TestFirstOfFirst(t *testing.T) {
	for _, l := range samples() {
		for k := 1; k <= api.MaxK; k++ {
			for _, length := range []int{1, 3, 16, 50} {
				var firsts, more [][]api.Hit
				for _, row := range parted(l, length) {
					first, err := First(row, k)
					most, err2 := First(row, api.MaxK)
					if err != api.OK || err2 != api.OK {
						t.Fatalf("%d, %d", err, err2)
					}
					firsts, more = append(firsts, first), append(more, most)
				}
				merges(t, k, firsts, worded(k, l))
				merges(t, k, more, worded(k, l))
			}
		}
	}
}

// P6.4: whoever is left out stands ahead of nobody who is in; each is in, or left out, as often as it is there.
func TestWhoIsLeftOut(t *testing.T) {
	for _, l := range samples() {
		for k := 1; k <= api.MaxK; k++ {
			in, err := First(l, k)
			if err != api.OK || len(in) != min(k, len(l)) {
				t.Fatalf("First(%v, %d): %v, %d", l, k, in, err)
			}
			out := slices.Clone(l)
			for _, hit := range in {
				place := slices.Index(out, hit)
				if place < 0 {
					t.Fatalf("First(%v, %d): %v is in too often", l, k, hit)
				}
				out = slices.Delete(out, place, place+1)
			}
			for _, hit := range out {
				if ordered(hit, in[len(in)-1]) < 0 {
					t.Errorf("First(%v, %d): %v is left out", l, k, hit)
				}
			}
		}
	}
}

// P6.4: offered in whatever parts, one by one, or at once, it comes to the same.
func TestInParts(t *testing.T) {
	for _, l := range samples() {
		for k := 1; k <= api.MaxK; k++ {
			want := worded(k, l)
			for _, length := range []int{1, 2, 5, 16, 17, 1000} {
				rows := parted(l, length)
				if got := offered(t, k, rows...); !slices.Equal(got, want) {
					t.Errorf("%v, offered %d at a time, %d: %v", l, length, k, got)
				}
				slices.Reverse(rows)
				if got := offered(t, k, rows...); !slices.Equal(got, want) {
					t.Errorf("%v, offered %d at a time from behind, %d: %v", l, length, k, got)
				}
			}
			for cut := range min(len(l), 20) {
				if got := offered(t, k, l[:cut], nil, l[cut:]); !slices.Equal(got, want) {
					t.Errorf("%v, offered up to %d and from there on, %d: %v", l, cut, k, got)
				}
			}
		}
	}
}

// P6.4: more than MaxHits hits come to the same too, if no part has more.
func TestInPartsBeyondTheLimit(t *testing.T) {
	l := mixed(9, 3*api.MaxHits, 3000)
	for _, k := range []int{1, 7, api.MaxK} {
		for _, length := range []int{1, 100, api.MaxHits} {
			if got := offered(t, k, parted(l, length)...); !slices.Equal(got, worded(k, l)) {
				t.Errorf("%d, offered %d at a time: %v", k, length, got)
			}
		}
	}
}

// P6.4: what does not stand ahead of the last one of a full selection can be left away.
func TestLeftAwayBehindTheLast(t *testing.T) {
	for _, l := range samples() {
		for k := 1; k <= api.MaxK; k++ {
			top := api.Top{K: k}
			for _, hit := range l {
				if last, ok := Last(top); ok && ordered(hit, last) >= 0 {
					offers(t, top, []api.Hit{hit}, top.Hits)
					continue
				}
				top, _ = Offer(top, hit)
			}
			if !slices.Equal(top.Hits, worded(k, l)) {
				t.Errorf("%v, %d: %v", l, k, top.Hits)
			}
		}
	}
}

// P6.4, R5: the same arguments have the same answers, whatever was asked between.
func TestAskedAgain(t *testing.T) {
	for _, l := range samples() {
		for k := 1; k <= api.MaxK; k++ {
			want := worded(k, l)
			for range 2 {
				merges(t, k, parted(l, 4), want)
				offers(t, api.Top{K: k}, l, want)
				Merge(0, l)
				Offer(api.Top{K: 2, Hits: at(2, 2, 1, 1)}, l...)
				First(edgeHits(), k)
			}
		}
	}
}
