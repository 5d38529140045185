package means

import (
	"slices"
	"testing"

	"quiver/api"
)

// mustTrain is what Train answers of what it does not refuse.
func mustTrain(t *testing.T, l [][]int32, draws []int) [][]int32 {
	t.Helper()
	c, err := Train(l, draws)
	if err != api.OK {
		t.Fatalf("Train(%v, %v): %d", l, draws, err)
	}
	return c
}

// mustRound is what Round answers of what it does not refuse.
func mustRound(t *testing.T, c, l [][]int32) [][]int32 {
	t.Helper()
	next, err := Round(c, l)
	if err != api.OK {
		t.Fatalf("Round(%v, %v): %d", c, l, err)
	}
	return next
}

// P12.5: no centroid is nearer to a vector than its own, and none ahead of that one is as near.
func TestNoneNearer(t *testing.T) {
	for dim := 1; dim <= 4; dim++ {
		for _, c := range goodCentroids(dim) {
			for _, l := range goodVectors(dim) {
				places, err := Parts(c, l)
				if err != api.OK || len(places) != len(l) {
					t.Fatalf("Parts(%v, %v): %v, %d", c, l, places, err)
				}
				for i, v := range l {
					one, err := Assign(c, v)
					if err != api.OK || one != places[i] {
						t.Errorf("Assign(%v, %v): %d, %d, not %d", c, v, one, err, places[i])
					}
					for j := range c {
						mine, other := wordedDist(c[one], v), wordedDist(c[j], v)
						if other < mine || other == mine && j < one {
							t.Errorf("%v: %v is nearer than %v", v, c[j], c[one])
						}
					}
				}
			}
		}
	}
}

// P12.5: centroids that a round leaves as they are stay so, in all further rounds.
func TestAtRest(t *testing.T) {
	for dim := 1; dim <= 4; dim++ {
		for i, l := range goodVectors(dim) {
			c, err := Start(l, goodDraws(len(l))[6+i%15])
			if err != api.OK {
				t.Fatal(err)
			}
			rest := false
			for range 40 {
				next := mustRound(t, c, l)
				if rest && !Same(c, next) {
					t.Errorf("%v, at rest, come to %v", c, next)
				}
				rest = Same(c, next)
				c = next
			}
		}
	}
}

// P12.5: each component of what is trained is between the least and the greatest one of all vectors.
func TestBetween(t *testing.T) {
	for dim := 1; dim <= 4; dim++ {
		for _, l := range goodVectors(dim) {
			low, high := slices.Clone(l[0]), slices.Clone(l[0])
			for _, v := range l {
				for i := range v {
					low[i], high[i] = min(low[i], v[i]), max(high[i], v[i])
				}
			}
			for _, draws := range goodDraws(len(l))[8:] {
				for _, v := range mustTrain(t, l, draws) {
					for i := range v {
						if v[i] < low[i] || v[i] > high[i] {
							t.Errorf("Train(%v, %v): %v", l, draws, v)
						}
					}
				}
			}
		}
	}
}

// moves answers l's vectors, each one moved by the same one, and whether all that may be.
func moves(l [][]int32, by []int32) ([][]int32, bool) {
	m := own(l)
	for _, v := range m {
		for i := range v {
			to := int64(v[i]) + int64(by[i])
			if to < least || to > most {
				return nil, false
			}
			v[i] = int32(to)
		}
	}
	return m, true
}

// toTheEdge are vectors by which l is moved so far that its greatest or least component of a place is the utmost one.
func toTheEdge(l [][]int32) [][]int32 {
	var all [][]int32
	for i := range l[0] {
		least0, most0 := l[0][i], l[0][i]
		for _, v := range l {
			least0, most0 = min(least0, v[i]), max(most0, v[i])
		}
		up, down := make([]int32, len(l[0])), make([]int32, len(l[0]))
		up[i], down[i] = most-max(most0, 0), least-min(least0, 0)
		all = append(all, up, down)
	}
	return all
}

// P12.5: moved by the same vector, vectors have their centroids moved so, too: behind one round, and trained.
func TestMoved(t *testing.T) {
	held := 0
	for dim := 1; dim <= 4; dim++ {
		for _, l := range goodVectors(dim) {
			for i, by := range append(toTheEdge(l), []int32{5, -7, 1000000, 0}, []int32{-1, 1, -1, 1}, []int32{-99999, 12, 3, -4}) {
				by = by[:dim]
				m, ok := moves(l, by)
				if !ok {
					continue
				}
				held++
				draws := goodDraws(len(l))[i+6]
				want, _ := moves(mustTrain(t, l, draws), by)
				trains(t, m, draws, want, api.OK)
				c, err := Start(l, draws)
				far, _ := moves(c, by)
				starts(t, m, draws, far, err)
				places, err := Parts(c, l)
				parts(t, far, m, places, err)
				next, _ := moves(mustRound(t, c, l), by)
				turns(t, far, m, next, api.OK)
			}
		}
	}
	if held < 200 {
		t.Errorf("just %d were moved", held)
	}
}

// orders are the places of n in some other orders.
func orders(n int) [][]int {
	all := make([]int, n)
	for i := range all {
		all[i] = i
	}
	back, turned, mixed := slices.Clone(all), slices.Concat(all[n/3:], all[:n/3]), slices.Clone(all)
	slices.Reverse(back)
	next := random(uint64(n))
	for i := range mixed {
		j := next(i + 1)
		mixed[i], mixed[j] = mixed[j], mixed[i]
	}
	return [][]int{back, turned, mixed}
}

// P12.5: in whatever order the vectors stand, with draws that name the same ones, it comes to the same.
func TestInOtherOrders(t *testing.T) {
	for dim := 1; dim <= 4; dim++ {
		for _, l := range goodVectors(dim) {
			for _, order := range orders(len(l)) {
				var m [][]int32
				for _, place := range order {
					m = append(m, l[place])
				}
				for _, draws := range goodDraws(len(l))[9:] {
					var others []int
					for i, draw := range draws {
						others = append(others, slices.Index(order, draw%len(l))+i*len(l))
					}
					trains(t, m, others, mustTrain(t, l, draws), api.OK)
					c, _ := Start(l, draws)
					starts(t, m, others, c, api.OK)
					turns(t, c, m, mustRound(t, c, l), api.OK)
				}
			}
		}
	}
}
