package clock

import (
	"slices"
	"testing"

	"quiver/api"
)

// answer is what a call answers.
type answer struct {
	clock api.Clock
	ts    uint64
	taken []uint64
	err   api.Errno
}

// calls are all of them.
func calls() []func(c api.Clock, by []int64) answer {
	return []func(c api.Clock, by []int64) answer{
		func(c api.Clock, _ []int64) answer { return answer{err: Check(c)} },
		func(c api.Clock, by []int64) answer {
			got, err := Tick(c, int64(len(by))-3)
			return answer{clock: got, err: err}
		},
		func(c api.Clock, _ []int64) answer {
			ts, err := Next(c)
			return answer{ts: ts, err: err}
		},
		func(c api.Clock, _ []int64) answer {
			got, ts, err := Take(c)
			return answer{clock: got, ts: ts, err: err}
		},
		func(c api.Clock, _ []int64) answer {
			got, err := Opened(c.Last)
			return answer{clock: got, err: err}
		},
		func(c api.Clock, by []int64) answer {
			got, taken, err := Run(c, by...)
			return answer{clock: got, taken: taken, err: err}
		},
	}
}

func alike(x, y answer) bool {
	return x.clock == y.clock && x.ts == y.ts && slices.Equal(x.taken, y.taken) && x.err == y.err
}

// kept is the answer in memory of its own.
func kept(x answer) answer {
	x.taken = slices.Clone(x.taken)
	return x
}

// fill sets all that stands in l, and in the room behind its end, to another thing.
func fill[T any](l []T, x T) {
	l = l[:cap(l)]
	for i := range l {
		l[i] = x
	}
}

// roomy is by in memory of its own, with room behind its end in which something stands.
func roomy(by []int64) []int64 {
	return slices.Concat(by, []int64{99, 98, 97})[:len(by)]
}

// someTicks are rows of ticks of each length up to a few, and of many.
func someTicks() [][]int64 {
	l := [][]int64{nil, {0}, {5}, {-5}, {most}, {least}, {3, -3, 0, 9}, {last, 0}, {1, 2, 3}, {-1, most, -1, least, 4}}
	for n := range 20 {
		l = append(l, scattered(uint64(n), n*n))
	}
	return l
}

// R3, R5: what is handed in stays as it is, the room behind its end too, and is not kept; what is answered is new memory, each time the same.
func TestMemory(t *testing.T) {
	for _, c := range clocks([]uint64{0, 1, 9, last - 2, last - 1, last, last + 1, greatest}) {
		for _, by := range someTicks() {
			for i, do := range calls() {
				mine := roomy(by)
				was := slices.Clone(mine[:len(mine)+3])
				first, again := do(c, mine), do(c, mine)
				want := kept(first)
				if !alike(again, want) {
					t.Errorf("call %d of %v, %v: %v, and then %v", i, c, by, want, again)
				}
				fill(again.taken, 555)
				if !slices.Equal(mine[:len(mine)+3], was) {
					t.Errorf("call %d of %v, %v: what was handed in is %v", i, c, by, mine)
				}
				if !alike(first, want) {
					t.Errorf("call %d of %v, %v: two answers share memory", i, c, by)
				}
				fill(mine, -555)
				if !alike(first, want) {
					t.Errorf("call %d of %v, %v: %v is %v now", i, c, by, want, first)
				}
				if later := do(c, roomy(by)); !alike(later, want) {
					t.Errorf("call %d of %v, %v: %v, and later %v", i, c, by, want, later)
				}
			}
		}
	}
}

// R3: clocks go by value: whatever is asked of one, it is what it was.
func TestClocksStay(t *testing.T) {
	for _, c := range edgeClocks() {
		mine := c
		Check(mine)
		Tick(mine, 5)
		Next(mine)
		Take(mine)
		Run(mine, 5, -9, 2)
		if mine != c {
			t.Errorf("%v is %v now", c, mine)
		}
	}
}

// R5: the same arguments have the same answers, whatever was asked between.
func TestAskedAgain(t *testing.T) {
	all, rows := clocks([]uint64{0, 1, 9, last - 2, last, last + 1}), someTicks()
	var wants []answer
	for _, c := range all {
		for _, by := range rows {
			for _, do := range calls() {
				wants = append(wants, do(c, by))
			}
		}
	}
	slices.Reverse(all)
	slices.Reverse(rows)
	slices.Reverse(wants)
	asks := calls()
	slices.Reverse(asks)
	for _, c := range all {
		for _, by := range rows {
			for _, do := range asks {
				if got := do(c, by); !alike(got, wants[0]) {
					t.Errorf("%v, %v: %v, and then %v", c, by, wants[0], got)
				}
				wants = wants[1:]
			}
		}
	}
}
