package clock

import (
	"slices"
	"testing"

	"quiver/api"
)

// life goes tick by tick, holds each timestamp against all that were and against what time it is, and tells how many there are.
func life(t *testing.T, c api.Clock, by []int64) int {
	t.Helper()
	behind := c.Last
	for n, tick := range by {
		ticked, err := Tick(c, tick)
		if err != api.OK || Check(ticked) != api.OK || ticked.Last != behind {
			t.Errorf("Tick(%v, %d): %v, %d", c, tick, ticked, err)
		}
		taken, ts, err := Take(ticked)
		if err == api.ErrExhausted {
			if behind != last {
				t.Errorf("Take(%v): exhausted", ticked)
			}
			return n
		}
		if err != api.OK || Check(taken) != api.OK || ts == 0 || ts > last {
			t.Errorf("Take(%v): %v, %d, %d", ticked, taken, ts, err)
		}
		if ts <= behind || ts < ticked.Now || taken.Now != ticked.Now || taken.Last != ts {
			t.Errorf("Take(%v): %v, %d, behind %d", ticked, taken, ts, behind)
		}
		behind, c = ts, taken
	}
	return len(by)
}

// ran holds that the timestamps of a run are above 0, rise, above the last one that there was, and that none is below what time it was.
func ran(t *testing.T, c api.Clock, by []int64) {
	t.Helper()
	now, behind := c.Now, c.Last
	end, taken, err := Run(c, by...)
	for i, ts := range taken {
		now = wordedSum(now, by[i])
		if ts == 0 || ts > last || ts <= behind || ts < now {
			t.Errorf("Run(%v, %v): %d behind %d, at %d", c, by, ts, behind, now)
		}
		behind = ts
	}
	if err == api.ErrExhausted {
		now = wordedSum(now, by[len(taken)])
	} else if len(taken) != len(by) {
		t.Errorf("Run(%v, %v): %v, %d", c, by, taken, err)
	}
	if end != at(now, behind) || Check(end) != api.OK {
		t.Errorf("Run(%v, %v): %v at the end", c, by, end)
	}
}

// P15.5: timestamps rise, are above 0, and none is below what time it was, whatever the clock does.
func TestTimestampsRise(t *testing.T) {
	few := rowsOf(3, fewTicks())
	for i, c := range goodClocks() {
		for _, by := range few {
			life(t, c, by)
			ran(t, c, by)
		}
		for j := range uint64(5) {
			by := scattered(uint64(i)*5+j, 200)
			life(t, c, by)
			ran(t, c, by)
		}
	}
	all := 0
	for seed := range uint64(50) {
		// Small ticks alone lead far, before all is exhausted.
		by := scattered(seed, 2000)
		for i := range by {
			by[i] %= 1000
		}
		all += life(t, at(seed, 0), by)
		ran(t, at(seed, 0), by)
	}
	if all != 50*2000 {
		t.Errorf("just %d timestamps", all)
	}
}

// P15.4, P15.5: a run in two parts, wherever it is parted, is the same as the whole.
func TestRunInParts(t *testing.T) {
	rows := append(rowsOf(3, []int64{0, 4, -4, most, least}), edgeTicks(5), scattered(3, 30), scattered(4, 30), []int64{0, 0, 0, 0, 0, 0})
	for _, c := range goodClocks() {
		for _, by := range rows {
			want, wantTaken, wantErr := Run(c, by...)
			for parted := range len(by) + 1 {
				end, taken, err := Run(c, by[:parted]...)
				if err == api.OK {
					var more []uint64
					end, more, err = Run(end, by[parted:]...)
					taken = append(taken, more...)
				}
				if end != want || !slices.Equal(taken, wantTaken) || err != wantErr {
					t.Errorf("Run(%v, %v), parted at %d: %v, %v, %d, not %v, %v, %d", c, by, parted, end, taken, err, want, wantTaken, wantErr)
				}
			}
		}
	}
}

// P15.5: behind a restart, off the last timestamp alone, they go on rising.
func TestRiseBehindOpened(t *testing.T) {
	for _, c := range goodClocks() {
		for seed := range uint64(5) {
			behind, by := c.Last, scattered(seed, 20)
			end, taken, _ := Run(c, by...)
			if len(taken) > 0 {
				behind = taken[len(taken)-1]
			}
			opened, err := Opened(end.Last)
			if err != api.OK || opened != at(behind, behind) {
				t.Errorf("Opened(%d): %v, %d", end.Last, opened, err)
			}
			ran(t, opened, by)
		}
	}
}
