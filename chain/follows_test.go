package chain

import (
	"slices"
	"testing"

	"quiver/api"
)

// visible is what is visible at ts, as At tells it; nil, if nothing is.
func visible(t *testing.T, c []api.Version, ts uint64) []int32 {
	t.Helper()
	if places := wordedAt(c, ts); len(places) > 1 {
		t.Fatalf("%v: %v at %d", c, places, ts)
	}
	if i, ok := At(c, ts); ok {
		return c[i].Vec
	}
	return nil
}

// mayBe holds what comes against what chains are.
func mayBe(t *testing.T, c []api.Version) {
	t.Helper()
	if !wordedChain(c) || Check(c) != api.OK {
		t.Errorf("%v may not be", c)
	}
}

// P8.5: behind a Put what it put is visible at ts and later, behind a Del nothing is; ahead of it all is as it was; and what comes may be.
func TestBehindPutAndDel(t *testing.T) {
	for _, c := range small(6) {
		for ts := wordedLast(c) + 1; ts <= 9; ts++ {
			put, err := Put(c, ts, []int32{77})
			if err != api.OK {
				t.Fatalf("Put(%v, %d): %d", c, ts, err)
			}
			became(t, c, put, ts, []int32{77})
			if del, err := Del(c, ts); err == api.OK {
				became(t, c, del, ts, nil)
			} else if err != api.ErrNone || len(vecAt(c, ts)) != 0 {
				t.Errorf("Del(%v, %d): %d", c, ts, err)
			}
		}
	}
}

// became holds what c became, time by time: v from ts on, and what it was ahead of that.
func became(t *testing.T, c, d []api.Version, ts uint64, v []int32) {
	t.Helper()
	mayBe(t, d)
	if Last(d) != ts {
		t.Errorf("%v: its last trace is %d, not %d", d, Last(d), ts)
	}
	for _, at := range append(timesOf(d), timesOf(c)...) {
		want := vecAt(c, at)
		if at >= ts {
			want = v
		}
		if got := visible(t, d, at); !slices.Equal(got, want) {
			t.Errorf("%v became %v: %v at %d, not %v", c, d, got, at, want)
		}
	}
}

// P8.5: behind Prune what is visible from floor on is what it was; what stays is visible at some time from there on, what goes is not; traces above floor stay.
func TestBehindPrune(t *testing.T) {
	for _, c := range slices.Concat(small(7), [][]api.Version{long(full, 10, true, 5), long(full, 4, false, 5, 6)}) {
		for _, floor := range timesOf(c) {
			stay, gone, err := Prune(c, floor)
			if err != api.OK || len(stay)+len(gone) != len(c) {
				t.Fatalf("Prune(%v, %d): %v, %v, %d", c, floor, stay, gone, err)
			}
			mayBe(t, stay)
			pruned(t, c, stay, floor)
			for _, v := range stay {
				if len(vecAt([]api.Version{v}, max(floor, v.Begin))) == 0 {
					t.Errorf("Prune(%v, %d): %v stays", c, floor, v)
				}
			}
			for _, v := range gone {
				if v.End == 0 || v.End > floor {
					t.Errorf("Prune(%v, %d): %v goes", c, floor, v)
				}
			}
		}
	}
}

// pruned holds what stays of c, time by time and trace by trace.
func pruned(t *testing.T, c, stay []api.Version, floor uint64) {
	t.Helper()
	for _, at := range timesOf(c) {
		if at < floor {
			continue
		}
		if got := visible(t, stay, at); !slices.Equal(got, vecAt(c, at)) {
			t.Errorf("Prune(%v, %d): %v at %d", c, floor, got, at)
		}
	}
	traces := func(l []api.Version) []uint64 {
		var above []uint64
		for _, v := range l {
			above = append(above, v.Begin, v.End)
		}
		return slices.DeleteFunc(above, func(ts uint64) bool { return ts <= floor })
	}
	kept := traces(stay)
	for _, ts := range traces(c) {
		if !slices.Contains(kept, ts) {
			t.Errorf("Prune(%v, %d): the trace %d is gone", c, floor, ts)
		}
	}
	if Last(c) > floor && Last(stay) != Last(c) {
		t.Errorf("Prune(%v, %d): the last trace is %d", c, floor, Last(stay))
	}
}

// P8.5: what stays goes on as the whole would have: the same may be put and deleted, and at the same times the same is seen.
func TestPrunedGoesOn(t *testing.T) {
	for _, c := range small(5) {
		for floor := range uint64(8) {
			stay, _, _ := Prune(c, floor)
			ts := max(Last(c), floor) + 1
			whole, err := Put(c, ts, []int32{77})
			part, err2 := Put(stay, ts, []int32{77})
			if err != api.OK || err2 != api.OK {
				t.Fatalf("%v, %v: %d, %d", c, stay, err, err2)
			}
			pruned(t, whole, part, floor)
			again, gone, err := Prune(stay, floor)
			if err != api.OK || len(gone) != 0 || !Same(again, stay) {
				t.Errorf("Prune(%v, %d): %v, %v, %d", stay, floor, again, gone, err)
			}
		}
	}
}

// P8.5: a long life, held against a list of all that was put and deleted.
func TestLongLife(t *testing.T) {
	type deed struct {
		ts uint64
		v  []int32
	}
	seed := uint64(5)
	next := func(bound uint64) uint64 {
		seed = seed*6364136223846793005 + 1442695040888963407
		return seed >> 33 % bound
	}
	var c []api.Version
	deeds := []deed{{}}
	ts, floor := uint64(0), uint64(0)
	fullOnes := 0
	for step := range 3000 {
		ts += 1 + next(4)
		d, v, err := c, []int32(nil), api.OK
		if next(5) == 0 {
			d, err = Del(c, ts)
		} else {
			v = []int32{int32(step), -int32(step)}
			d, err = Put(c, ts, v)
		}
		switch err {
		case api.OK:
			c, deeds = d, append(deeds, deed{ts, v})
		case api.ErrFull:
			fullOnes++
			floor = ts - next(200)
			c, _, _ = Prune(c, floor)
		case api.ErrNone:
		default:
			t.Fatalf("%d", err)
		}
		mayBe(t, c)
		for range 20 {
			at := floor + next(ts+3-floor)
			i, _ := slices.BinarySearchFunc(deeds, at+1, func(d deed, ts uint64) int { return int(d.ts) - int(ts) })
			if got := visible(t, c, at); !slices.Equal(got, deeds[i-1].v) {
				t.Fatalf("%v: %v at %d, not %v", c, got, at, deeds[i-1].v)
			}
		}
	}
	if fullOnes < 10 {
		t.Errorf("just %d times full", fullOnes)
	}
}

// behind is c, and behind its end, and behind those of its vectors, there is room in which something stands.
func behind(c []api.Version) []api.Version {
	l := slices.Concat(c, row(9, 9, 9, 8, 8, 8))
	for i := range l {
		l[i].Vec = roomy(l[i].Vec)
	}
	return l[:len(c)]
}

func roomy(v []int32) []int32 {
	return slices.Concat(v, []int32{99, 98, 97})[:len(v)]
}

// wipe sets all that c has, and what stands behind its end and its vectors', to another thing.
func wipe(c []api.Version) {
	c = c[:cap(c)]
	for i := range c {
		wipeVec(c[i].Vec)
		c[i].Begin, c[i].End = 12345, 54321
	}
}

func wipeVec(v []int32) {
	v = v[:cap(v)]
	for i := range v {
		v[i] = -555
	}
}

// whole is all that stands in c and behind it, for later.
func whole(c []api.Version) []api.Version {
	l := slices.Clone(c[:len(c)+2])
	for i := range l {
		l[i].Vec = slices.Clone(l[i].Vec[:len(l[i].Vec)+3])
	}
	return l
}

// call is one of those that answer chains, with a name.
type call struct {
	name string
	ask  func(c []api.Version, v []int32) [][]api.Version
}

// calls are those of a chain and a time at which all may be done that may be done at some time; two floors, as one leaves what the other one takes.
func calls(ts uint64) []call {
	put := func(c []api.Version, v []int32) [][]api.Version {
		d, _ := Put(c, ts, v)
		return [][]api.Version{d}
	}
	del := func(c []api.Version, v []int32) [][]api.Version {
		d, _ := Del(c, ts)
		return [][]api.Version{d}
	}
	prune := func(floor uint64) func(c []api.Version, v []int32) [][]api.Version {
		return func(c []api.Version, v []int32) [][]api.Version {
			stay, gone, _ := Prune(c, floor)
			return [][]api.Version{stay, gone}
		}
	}
	asks := func(c []api.Version, v []int32) [][]api.Version {
		Check(c)
		Same(c, c)
		Last(c)
		At(c, ts)
		return nil
	}
	return []call{{"Put", put}, {"Del", del}, {"Prune", prune(0)}, {"Prune", prune(25)}, {"Prune", prune(ts)}, {"asked", asks}}
}

// R3 and R5: what is handed in stays as it is, the room behind its ends too, and is not kept; what is answered is new memory, each time, and no two vectors of one answer share any.
func TestMemory(t *testing.T) {
	chains := [][]api.Version{nil, one(3, 0, 1, 2), one(3, 0, 1), long(4, 10, true, 1, 2, 3, 4), long(5, 3, false, 7, 8, 9), long(full, 10, true, 1), long(full-1, 10, false, 1, 2), row(3, 2, 7)}
	for _, good := range chains {
		for _, do := range calls(2000) {
			v := roomy([]int32{4, 5, 6, 7}[:max(1, dimensionOf(good))])
			c := behind(good)
			was, vWas := whole(c), slices.Clone(v[:len(v)+3])
			first, again := do.ask(c, v), do.ask(c, v)
			if !Same(c[:len(c)+2], shortened(was)) || !Same(was, whole(c)) || !slices.Equal(v[:len(v)+3], vWas) {
				t.Errorf("%s of %v: what was handed in is %v", do.name, good, c)
			}
			want := owns(first)
			wipe(c)
			wipeVec(v)
			for _, d := range again {
				wipe(d)
			}
			for i := range first {
				if !Same(first[i], want[i]) {
					t.Errorf("%s of %v: %v is %v now", do.name, good, want[i], first[i])
				}
			}
			parted(t, do.name, first, want)
		}
	}
}

func dimensionOf(c []api.Version) int {
	if len(c) == 0 {
		return 0
	}
	return len(c[0].Vec)
}

// shortened is what whole answered, each vector without the room behind its end.
func shortened(c []api.Version) []api.Version {
	l := slices.Clone(c)
	for i := range l {
		l[i].Vec = l[i].Vec[:len(l[i].Vec)-3]
	}
	return l
}

func owns(l [][]api.Version) [][]api.Version {
	var m [][]api.Version
	for _, c := range l {
		m = append(m, own(c))
	}
	return m
}

// parted holds that no two lists of an answer stand where another one does: each one is wiped, and all behind it are what they were.
func parted(t *testing.T, name string, answer, want [][]api.Version) {
	t.Helper()
	for i := range answer {
		for j := range answer[i] {
			if !Same(answer[i][j:j+1], want[i][j:j+1]) {
				t.Errorf("%s: %v shares memory", name, want[i])
			}
			wipeVec(answer[i][j].Vec)
		}
		wipe(answer[i])
	}
}

// R3: versions that share one vector, and a vector that is one of the chain's: what comes shares none.
func TestSharedVectors(t *testing.T) {
	v := []int32{4, 5}
	c := append(append(one(3, 5, v...), one(5, 7, v...)...), one(7, 0, v...)...)
	for _, do := range calls(9) {
		for _, d := range do.ask(c, c[1].Vec) {
			if len(d) > 4 {
				t.Errorf("%s: %v", do.name, d)
			}
		}
		first := do.ask(c, c[1].Vec)
		parted(t, do.name, first, owns(first))
	}
	if !slices.Equal(v, []int32{4, 5}) || !Same(c, append(append(one(3, 5, 4, 5), one(5, 7, 4, 5)...), one(7, 0, 4, 5)...)) {
		t.Errorf("%v: %v", v, c)
	}
}

// R5: the same arguments have the same answers, whatever was asked between.
func TestAskedAgain(t *testing.T) {
	for _, c := range goodChains() {
		ts := min(wordedLast(c)+3, last)
		for _, do := range calls(ts) {
			v := make([]int32, max(1, dimensionOf(c)))
			want := owns(do.ask(c, v))
			Put(nil, 5, []int32{1})
			Del(row(3, 0, 7), 9)
			Prune(row(3, 5, 7, 3, 0, 8), 2)
			for i, d := range do.ask(c, v) {
				if !Same(d, want[i]) {
					t.Errorf("%s of %v: %v, and then %v", do.name, c, want[i], d)
				}
			}
		}
	}
}
