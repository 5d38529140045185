package clock

import (
	"math"
	"math/big"
	"slices"
	"testing"

	"quiver/api"
)

// Here stands what the chapter says, once more and as plainly as it does, with what is asked of all calls.

const (
	last     = 1099511627776 // the greatest timestamp
	greatest = math.MaxUint64
	most     = math.MaxInt64
	least    = math.MinInt64
)

func at(now, last uint64) api.Clock {
	return api.Clock{Now: now, Last: last}
}

func wordedMay(c api.Clock) bool {
	return c.Now <= last && c.Last <= last
}

func wordedCheck(c api.Clock) api.Errno {
	if wordedMay(c) {
		return api.OK
	}
	return api.ErrClock
}

// wordedSum is now and by together, by whole numbers without a bound.
func wordedSum(now uint64, by int64) uint64 {
	sum := new(big.Int).Add(new(big.Int).SetUint64(now), big.NewInt(by))
	if sum.Sign() < 0 {
		return 0
	}
	if sum.Cmp(big.NewInt(last)) > 0 {
		return last
	}
	return sum.Uint64()
}

func wordedTick(c api.Clock, by int64) (api.Clock, api.Errno) {
	if !wordedMay(c) {
		return at(0, 0), api.ErrClock
	}
	return at(wordedSum(c.Now, by), c.Last), api.OK
}

func wordedNext(c api.Clock) (uint64, api.Errno) {
	if !wordedMay(c) {
		return 0, api.ErrClock
	}
	next := c.Now
	if c.Last+1 > c.Now {
		next = c.Last + 1
	}
	if next > last {
		return 0, api.ErrExhausted
	}
	return next, api.OK
}

func wordedTake(c api.Clock) (api.Clock, uint64, api.Errno) {
	ts, err := wordedNext(c)
	if err != api.OK {
		return at(0, 0), 0, err
	}
	return at(c.Now, ts), ts, api.OK
}

func wordedRun(c api.Clock, by []int64) (api.Clock, []uint64, api.Errno) {
	if !wordedMay(c) {
		return at(0, 0), nil, api.ErrClock
	}
	var l []uint64
	for i := 0; i < len(by); i++ {
		c, _ = wordedTick(c, by[i])
		then, ts, err := wordedTake(c)
		if err != api.OK {
			return c, l, err
		}
		c = then
		l = append(l, ts)
	}
	return c, l, api.OK
}

func checks(t *testing.T, c api.Clock, want api.Errno) {
	t.Helper()
	if err := Check(c); err != want {
		t.Errorf("Check(%v): %d, not %d", c, err, want)
	}
}

func opens(t *testing.T, last uint64, want api.Clock, wantErr api.Errno) {
	t.Helper()
	if c, err := Opened(last); c != want || err != wantErr {
		t.Errorf("Opened(%d): %v, %d, not %v, %d", last, c, err, want, wantErr)
	}
}

func ticks(t *testing.T, c api.Clock, by int64, want api.Clock, wantErr api.Errno) {
	t.Helper()
	if got, err := Tick(c, by); got != want || err != wantErr {
		t.Errorf("Tick(%v, %d): %v, %d, not %v, %d", c, by, got, err, want, wantErr)
	}
}

func nexts(t *testing.T, c api.Clock, want uint64, wantErr api.Errno) {
	t.Helper()
	if ts, err := Next(c); ts != want || err != wantErr {
		t.Errorf("Next(%v): %d, %d, not %d, %d", c, ts, err, want, wantErr)
	}
}

func takes(t *testing.T, c, want api.Clock, wantTs uint64, wantErr api.Errno) {
	t.Helper()
	if got, ts, err := Take(c); got != want || ts != wantTs || err != wantErr {
		t.Errorf("Take(%v): %v, %d, %d, not %v, %d, %d", c, got, ts, err, want, wantTs, wantErr)
	}
}

func runs(t *testing.T, c api.Clock, by []int64, want api.Clock, wantTaken []uint64, wantErr api.Errno) {
	t.Helper()
	if got, taken, err := Run(c, by...); got != want || !slices.Equal(taken, wantTaken) || err != wantErr {
		t.Errorf("Run(%v, %v): %v, %v, %d, not %v, %v, %d", c, by, got, taken, err, want, wantTaken, wantErr)
	}
}

// edgeTimes are times around 0, MaxTs, and the bounds of numbers of fewer bytes.
func edgeTimes() []uint64 {
	return []uint64{
		0, 1, 2, 3, 9, 255, 256,
		1<<31 - 1, 1 << 31, 1<<32 - 1, 1 << 32, 1<<32 + 1,
		last / 2, last - 3, last - 2, last - 1, last,
		last + 1, last + 2, 2 * last, 1<<63 - 1, 1 << 63, 1<<63 + 1, greatest - last, greatest - 1, greatest,
	}
}

// goodTimes are those of them that are at most MaxTs.
func goodTimes() []uint64 {
	return slices.DeleteFunc(edgeTimes(), func(ts uint64) bool { return ts > last })
}

// clocks have each of the times, each with each.
func clocks(times []uint64) []api.Clock {
	var l []api.Clock
	for _, now := range times {
		for _, last := range times {
			l = append(l, at(now, last))
		}
	}
	return l
}

func edgeClocks() []api.Clock {
	return clocks(edgeTimes())
}

func goodClocks() []api.Clock {
	return clocks(goodTimes())
}

// badClocks are those of the edges that may not be: by Now, by Last, and by both.
func badClocks() []api.Clock {
	return slices.DeleteFunc(edgeClocks(), wordedMay)
}

// edgeTicks are ticks that lead from now to 0, to MaxTs, and one less and one more far, with the utmost ones.
func edgeTicks(now uint64) []int64 {
	n := int64(now)
	return []int64{
		0, 1, -1, 2, -2, 3, -3,
		-n - 1, -n, -n + 1, n - 1, n, n + 1,
		last - n - 1, last - n, last - n + 1,
		-last - 1, -last, -last + 1, last - 1, last, last + 1,
		1<<31 - 1, 1 << 31, 1 << 32, -1 << 31, -1 << 32, -1<<32 - 1,
		most - n - 1, most - n, most - last, most - last + 1, most - 1, most,
		least + n - 1, least + n, least + n + 1, least + last, least + 1, least,
	}
}

// fewTicks are ones that stand, go on, go back, and go beyond both ends.
func fewTicks() []int64 {
	return []int64{0, 1, -1, 3, -3, last, -last, most, least}
}

// rowsOf are all rows of n of the ticks.
func rowsOf(n int, of []int64) [][]int64 {
	l := [][]int64{nil}
	for range n {
		var longer [][]int64
		for _, row := range l {
			for _, tick := range of {
				longer = append(longer, append(slices.Clone(row), tick))
			}
		}
		l = longer
	}
	return l
}

// scattered are n ticks that follow a rule by which they look strewn: small ones and great ones, on and back.
func scattered(seed uint64, n int) []int64 {
	var l []int64
	x := seed*2862933555777941757 + 3037000493
	for range n {
		x ^= x << 13
		x ^= x >> 7
		x ^= x << 17
		l = append(l, int64(x)>>(x%64))
	}
	return l
}
