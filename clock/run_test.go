package clock

import (
	"slices"
	"testing"

	"quiver/api"
)

// asWorded holds a run against the chapter's words, and tells what its error should be, with how many timestamps there are.
func asWorded(t *testing.T, c api.Clock, by []int64) (int, api.Errno) {
	t.Helper()
	want, taken, err := wordedRun(c, by)
	runs(t, c, by, want, taken, err)
	return len(taken), err
}

// P15.4: each clock, by each row of a few ticks.
func TestRunAsWorded(t *testing.T) {
	exhausted := make([]int, 4)
	for n := range 4 {
		rows := rowsOf(n, fewTicks())
		for _, c := range goodClocks() {
			for _, by := range rows {
				if taken, err := asWorded(t, c, by); err == api.ErrExhausted {
					exhausted[taken]++
				}
			}
		}
	}
	for taken, n := range exhausted[:3] {
		if n < 100 {
			t.Errorf("just %d are exhausted behind %d timestamps", n, taken)
		}
	}
	for _, c := range edgeClocks() {
		for _, by := range edgeTicks(c.Now) {
			asWorded(t, c, []int64{by})
			asWorded(t, c, []int64{by, 1, -by, 0})
		}
		asWorded(t, c, edgeTicks(c.Now))
		asWorded(t, c, scattered(c.Now^c.Last, 100))
	}
}

// P15.4: by no ticks, nil or empty, nothing is taken, and the clock is what it was; though none is left, nothing is exhausted.
func TestRunOfNone(t *testing.T) {
	for _, c := range goodClocks() {
		runs(t, c, nil, c, nil, api.OK)
		runs(t, c, []int64{}, c, nil, api.OK)
		runs(t, c, []int64{5, 6}[:0], c, nil, api.OK)
		if got, taken, err := Run(c); got != c || len(taken) > 0 || err != api.OK {
			t.Errorf("Run(%v): %v, %v, %d", c, got, taken, err)
		}
	}
}

// P15.4: one tick is a Tick and a Take.
func TestRunOfOne(t *testing.T) {
	for _, c := range goodClocks() {
		for _, by := range edgeTicks(c.Now) {
			ticked, err := Tick(c, by)
			if err != api.OK {
				t.Errorf("Tick(%v, %d): %d", c, by, err)
			}
			taken, ts, err := Take(ticked)
			if err == api.OK {
				runs(t, c, []int64{by}, taken, []uint64{ts}, api.OK)
			} else {
				runs(t, c, []int64{by}, ticked, nil, err)
			}
		}
	}
}

// P15.4: written out: ticks that stand, go on, go back, and go beyond both ends.
func TestRunEdges(t *testing.T) {
	runs(t, at(0, 0), []int64{0, 0, 0}, at(0, 3), []uint64{1, 2, 3}, api.OK)
	runs(t, at(7, 0), []int64{0, 0, 0}, at(7, 9), []uint64{7, 8, 9}, api.OK)
	runs(t, at(7, 20), []int64{1, 1}, at(9, 22), []uint64{21, 22}, api.OK)
	runs(t, at(7, 5), []int64{1, 5, 1}, at(14, 14), []uint64{8, 13, 14}, api.OK)
	runs(t, at(7, 5), []int64{-2, -2, 8}, at(11, 11), []uint64{6, 7, 11}, api.OK)
	runs(t, at(7, 5), []int64{-9, 9, -9, 9}, at(9, 11), []uint64{6, 9, 10, 11}, api.OK)
	runs(t, at(7, 5), []int64{least, 3, least, 8}, at(8, 9), []uint64{6, 7, 8, 9}, api.OK)
	runs(t, at(7, 5), []int64{1, most}, at(last, last), []uint64{8, last}, api.OK)
	runs(t, at(last, 5), []int64{-1, 4}, at(last, last), []uint64{last - 1, last}, api.OK)
	runs(t, at(5, last-3), []int64{0, -9, 2}, at(2, last), []uint64{last - 2, last - 1, last}, api.OK)
	// Last is not what is ticked.
	runs(t, at(0, 100), []int64{3, -3, 0, 9}, at(9, 104), []uint64{101, 102, 103, 104}, api.OK)
	runs(t, at(0, 0), []int64{last, -last, 0}, at(0, last), []uint64{last}, api.ErrExhausted)
}

// P15.4: exhausted at each place: the timestamps up to there, the clock with its tick done; what comes behind it is left alone.
func TestRunExhausted(t *testing.T) {
	runs(t, at(5, last), []int64{3}, at(8, last), nil, api.ErrExhausted)
	runs(t, at(5, last), []int64{3, 100, -2}, at(8, last), nil, api.ErrExhausted)
	runs(t, at(5, last), []int64{-9, 1}, at(0, last), nil, api.ErrExhausted)
	runs(t, at(5, last), []int64{most, -1}, at(last, last), nil, api.ErrExhausted)
	runs(t, at(5, last), []int64{0, 7}, at(5, last), nil, api.ErrExhausted)
	runs(t, at(5, last-1), []int64{3, 100, -2}, at(108, last), []uint64{last}, api.ErrExhausted)
	runs(t, at(5, last-2), []int64{3, 100, -2}, at(106, last), []uint64{last - 1, last}, api.ErrExhausted)
	runs(t, at(5, last-3), []int64{3, 100, -2}, at(106, last), []uint64{last - 2, last - 1, last}, api.OK)
	runs(t, at(5, 9), []int64{3, last, -20, -5}, at(last-20, last), []uint64{10, last}, api.ErrExhausted)
	for left := range 20 {
		for _, tick := range []int64{0, 1, -1, 7, -7} {
			by := slices.Repeat([]int64{tick}, 20)
			var want []uint64
			for i := range left {
				want = append(want, last-uint64(left-1-i))
			}
			// The tick behind the last timestamp is done as well.
			now := uint64(1000 + tick*int64(left+1))
			runs(t, at(1000, last-uint64(left)), by, at(now, last), want, api.ErrExhausted)
			by[left] = 50
			runs(t, at(1000, last-uint64(left)), by, at(uint64(1050+tick*int64(left)), last), want, api.ErrExhausted)
			for i := left + 1; i < len(by); i++ {
				by[i] = 12345
			}
			runs(t, at(1000, last-uint64(left)), by, at(uint64(1050+tick*int64(left)), last), want, api.ErrExhausted)
		}
	}
}

// P15.4: many ticks.
func TestRunOfMany(t *testing.T) {
	const many = 100000
	up, stood := slices.Repeat([]int64{2}, many), make([]int64, many)
	c, taken, err := Run(at(0, 0), up...)
	if c != at(2*many, 2*many) || len(taken) != many || err != api.OK {
		t.Errorf("%v, %d timestamps, %d", c, len(taken), err)
	}
	for i, ts := range taken {
		if ts != uint64(2*i+2) {
			t.Fatalf("the timestamp %d is %d", i, ts)
		}
	}
	c, taken, err = Run(at(0, 9), stood...)
	if c != at(0, many+9) || len(taken) != many || err != api.OK {
		t.Errorf("%v, %d timestamps, %d", c, len(taken), err)
	}
	for seed := range uint64(20) {
		asWorded(t, at(seed, 20-seed), scattered(seed, 5000))
	}
}

// Ways: a run that is left early, and gone through again, tells the same from its beginning on.
func TestSteps(t *testing.T) {
	by := []int64{3, -3, 0, 9}
	all := steps(at(0, 0), by)
	want := []api.Clock{at(3, 3), at(0, 4), at(0, 5), at(9, 9)}
	for n := range len(by) + 1 {
		var l []api.Clock
		for c, err := range all {
			if len(l) == n {
				break
			}
			if err != api.OK {
				t.Errorf("%v: %d", c, err)
			}
			l = append(l, c)
		}
		if !slices.Equal(l, want[:n]) {
			t.Errorf("%v, not %v", l, want[:n])
		}
	}
	for c, err := range steps(at(0, last+1), by[:1]) {
		if c != at(0, 0) || err != api.ErrClock {
			t.Errorf("%v, %d", c, err)
		}
	}
}
