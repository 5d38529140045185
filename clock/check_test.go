package clock

import (
	"testing"

	"quiver/api"
)

// P15.1: a Now and a Last of each kind, each with each.
func TestCheckAsWorded(t *testing.T) {
	for _, c := range edgeClocks() {
		checks(t, c, wordedCheck(c))
	}
	for bit := range 64 {
		want := api.OK
		if bit > 40 {
			want = api.ErrClock
		}
		checks(t, at(1<<bit, 0), want)
		checks(t, at(0, 1<<bit), want)
		checks(t, at(1<<bit, 1<<bit), want)
	}
}

// P15.1: written out, at the edges of either one and of both.
func TestCheckEdges(t *testing.T) {
	good, bad := []uint64{0, 1, last - 1, last}, []uint64{last + 1, greatest}
	for _, x := range good {
		for _, y := range good {
			checks(t, at(x, y), api.OK)
		}
		for _, y := range bad {
			checks(t, at(x, y), api.ErrClock)
			checks(t, at(y, x), api.ErrClock)
		}
	}
	for _, x := range bad {
		for _, y := range bad {
			checks(t, at(x, y), api.ErrClock)
		}
	}
	checks(t, api.Clock{}, api.OK)
	checks(t, api.Clock{Now: 1 << 40, Last: 1 << 40}, api.OK)
	checks(t, api.Clock{Now: 1<<40 + 1}, api.ErrClock)
	checks(t, api.Clock{Last: 1<<40 + 1}, api.ErrClock)
}

// P15.1: what is opened, at each edge; what may be opened is a clock that may be.
func TestOpened(t *testing.T) {
	opens(t, 0, at(0, 0), api.OK)
	opens(t, 1, at(1, 1), api.OK)
	opens(t, 7, at(7, 7), api.OK)
	opens(t, last-1, at(last-1, last-1), api.OK)
	opens(t, last, at(last, last), api.OK)
	opens(t, last+1, at(0, 0), api.ErrClock)
	opens(t, greatest, at(0, 0), api.ErrClock)
	for _, ts := range edgeTimes() {
		if ts > last {
			opens(t, ts, at(0, 0), api.ErrClock)
		} else {
			opens(t, ts, at(ts, ts), api.OK)
		}
	}
	for bit := range 64 {
		if bit > 40 {
			opens(t, 1<<bit, at(0, 0), api.ErrClock)
		} else {
			opens(t, 1<<bit, at(1<<bit, 1<<bit), api.OK)
		}
	}
}

// P15.1 to P15.4: a clock that may not be is told ahead of all else, and nothing beside it.
func TestBadClocks(t *testing.T) {
	for _, c := range badClocks() {
		checks(t, c, api.ErrClock)
		nexts(t, c, 0, api.ErrClock)
		takes(t, c, at(0, 0), 0, api.ErrClock)
		for _, by := range edgeTicks(c.Now) {
			ticks(t, c, by, at(0, 0), api.ErrClock)
			runs(t, c, []int64{by}, at(0, 0), nil, api.ErrClock)
			runs(t, c, []int64{by, -by, 1}, at(0, 0), nil, api.ErrClock)
		}
		runs(t, c, nil, at(0, 0), nil, api.ErrClock)
		runs(t, c, []int64{}, at(0, 0), nil, api.ErrClock)
		if got, taken, err := Run(c); got != at(0, 0) || len(taken) > 0 || err != api.ErrClock {
			t.Errorf("Run(%v): %v, %v, %d", c, got, taken, err)
		}
	}
	// One tick would lead back to what may be, and no timestamp is left.
	runs(t, at(last+1, 5), []int64{-1}, at(0, 0), nil, api.ErrClock)
	nexts(t, at(last+1, last), 0, api.ErrClock)
	takes(t, at(last+1, last), at(0, 0), 0, api.ErrClock)
	runs(t, at(0, greatest), []int64{0}, at(0, 0), nil, api.ErrClock)
	nexts(t, at(0, greatest), 0, api.ErrClock)
}
