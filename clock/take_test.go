package clock

import (
	"testing"

	"quiver/api"
)

// P15.3: each clock, held against the chapter's words.
func TestTakeAsWorded(t *testing.T) {
	given, exhausted := 0, 0
	for _, c := range edgeClocks() {
		ts, err := wordedNext(c)
		nexts(t, c, ts, err)
		then, ts, err := wordedTake(c)
		takes(t, c, then, ts, err)
		if err == api.OK {
			given++
		}
		if err == api.ErrExhausted {
			exhausted++
		}
	}
	if given < 200 || exhausted < 10 {
		t.Errorf("just %d are given, and %d exhausted", given, exhausted)
	}
	for now := range uint64(60) {
		for l := range uint64(60) {
			ts := l + 1
			if now > l {
				ts = now
			}
			nexts(t, at(now, l), ts, api.OK)
			takes(t, at(now, l), at(now, ts), ts, api.OK)
		}
	}
}

// P15.3: written out: Now below, at and above Last, in the middle and at both ends.
func TestTakeEdges(t *testing.T) {
	for _, c := range []struct {
		now, last, want uint64
	}{
		{0, 0, 1}, {1, 0, 1}, {2, 0, 2}, {0, 1, 2}, {1, 1, 2}, {2, 1, 2}, {3, 1, 3},
		{8, 9, 10}, {9, 9, 10}, {10, 9, 10}, {11, 9, 11}, {0, 9, 10}, {last, 9, last},
		{last, 0, last}, {last - 1, 0, last - 1}, {last - 1, last - 2, last - 1}, {last, last - 2, last}, {0, last - 2, last - 1},
		{0, last - 1, last}, {last - 2, last - 1, last}, {last - 1, last - 1, last}, {last, last - 1, last},
	} {
		nexts(t, at(c.now, c.last), c.want, api.OK)
		takes(t, at(c.now, c.last), at(c.now, c.want), c.want, api.OK)
	}
}

// P15.3: behind MaxTs no timestamp is left, whatever the time is.
func TestTakeExhausted(t *testing.T) {
	for _, now := range goodTimes() {
		nexts(t, at(now, last), 0, api.ErrExhausted)
		takes(t, at(now, last), at(0, 0), 0, api.ErrExhausted)
		nexts(t, at(now, last-1), last, api.OK)
		takes(t, at(now, last-1), at(now, last), last, api.OK)
	}
}

// P15.3: what is next is what is taken; asking for it takes nothing.
func TestNextIsTaken(t *testing.T) {
	for _, c := range edgeClocks() {
		first, err := Next(c)
		nexts(t, c, first, err)
		got, ts, takeErr := Take(c)
		if ts != first || takeErr != err || err == api.OK && got != at(c.Now, first) {
			t.Errorf("%v: next is %d, %d, but %v, %d, %d is taken", c, first, err, got, ts, takeErr)
		}
	}
}

// P15.1, P15.3: of what was opened the timestamp behind the last one comes next.
func TestTakeOfOpened(t *testing.T) {
	for _, ts := range goodTimes() {
		c, err := Opened(ts)
		if err != api.OK {
			t.Errorf("Opened(%d): %d", ts, err)
		}
		if ts == last {
			takes(t, c, at(0, 0), 0, api.ErrExhausted)
		} else {
			takes(t, c, at(ts, ts+1), ts+1, api.OK)
		}
	}
}
