package chain

import (
	"math"
	"slices"
	"testing"

	"quiver/api"
)

// comes holds an answer against the chain, or the error with nothing beside it, that has to come.
func comes(t *testing.T, name string, of []api.Version, ts uint64, got []api.Version, err api.Errno, want []api.Version, wantErr api.Errno) {
	t.Helper()
	if err != wantErr || len(got) != len(want) || !Same(got, want) {
		t.Errorf("%s(%v, %d): %v, %d, not %v, %d", name, of, ts, got, err, want, wantErr)
	}
}

// puts holds what Put answers.
func puts(t *testing.T, c []api.Version, ts uint64, v []int32, want []api.Version, wantErr api.Errno) {
	t.Helper()
	got, err := Put(c, ts, v)
	comes(t, "Put", c, ts, got, err, want, wantErr)
}

// dels holds what Del answers.
func dels(t *testing.T, c []api.Version, ts uint64, want []api.Version, wantErr api.Errno) {
	t.Helper()
	got, err := Del(c, ts)
	comes(t, "Del", c, ts, got, err, want, wantErr)
}

// prunes holds what Prune answers of a chain that may be.
func prunes(t *testing.T, c []api.Version, floor uint64, stay, gone []api.Version) {
	t.Helper()
	got, others, err := Prune(c, floor)
	comes(t, "Prune", c, floor, got, err, stay, api.OK)
	comes(t, "Prune", c, floor, others, err, gone, api.OK)
}

// P8.3, P8.4: the chapter's examples.
func TestExamples(t *testing.T) {
	puts(t, nil, 3, []int32{7}, row(3, 0, 7), api.OK)
	puts(t, row(3, 0, 7), 5, []int32{8}, row(3, 5, 7, 5, 0, 8), api.OK)
	dels(t, row(3, 5, 7, 5, 0, 8), 9, row(3, 5, 7, 5, 9, 8), api.OK)
	puts(t, row(3, 5, 7, 5, 9, 8), 9, []int32{1}, nil, api.ErrTs)
	dels(t, row(3, 5, 7, 5, 9, 8), 10, nil, api.ErrNone)
	prunes(t, row(3, 5, 7, 5, 9, 8), 5, row(5, 9, 8), row(3, 5, 7))
}

// P8.3: Put at the edges of times, written out: onto no versions, an open one, one that has ended.
func TestPutEdges(t *testing.T) {
	v := []int32{1}
	for _, c := range []struct {
		c    []api.Version
		ts   uint64
		want []api.Version
		err  api.Errno
	}{
		{nil, 0, nil, api.ErrTs}, {nil, 1, row(1, 0, 1), api.OK}, {[]api.Version{}, 1, row(1, 0, 1), api.OK},
		{nil, last, row(last, 0, 1), api.OK}, {nil, last + 1, nil, api.ErrTs}, {nil, math.MaxUint64, nil, api.ErrTs},
		{row(5, 0, 7), 0, nil, api.ErrTs}, {row(5, 0, 7), 4, nil, api.ErrTs}, {row(5, 0, 7), 5, nil, api.ErrTs},
		{row(5, 0, 7), 6, row(5, 6, 7, 6, 0, 1), api.OK},
		{row(5, 0, 7), last, row(5, last, 7, last, 0, 1), api.OK}, {row(5, 0, 7), last + 1, nil, api.ErrTs},
		{row(5, 8, 7), 6, nil, api.ErrTs}, {row(5, 8, 7), 7, nil, api.ErrTs}, {row(5, 8, 7), 8, nil, api.ErrTs},
		{row(5, 8, 7), 9, row(5, 8, 7, 9, 0, 1), api.OK}, {row(5, 8, 7), last, row(5, 8, 7, last, 0, 1), api.OK},
		{row(5, 8, 7), last + 1, nil, api.ErrTs}, {row(5, 8, 7), 1 << 63, nil, api.ErrTs},
		{row(last, 0, 7), last, nil, api.ErrTs}, {row(last, 0, 7), last + 1, nil, api.ErrTs}, {row(5, last, 7), last, nil, api.ErrTs},
		{row(last-1, 0, 7), last, row(last-1, last, 7, last, 0, 1), api.OK},
		{row(3, 5, 7, 5, 0, 8), 6, row(3, 5, 7, 5, 6, 8, 6, 0, 1), api.OK},
		{row(3, 4, 7, 5, 6, 8), 9, row(3, 4, 7, 5, 6, 8, 9, 0, 1), api.OK},
	} {
		puts(t, c.c, c.ts, v, c.want, c.err)
	}
}

// P8.3: Del at the edges of times, written out: of none, of an open one, of one that has ended.
func TestDelEdges(t *testing.T) {
	for _, c := range []struct {
		c    []api.Version
		ts   uint64
		want []api.Version
		err  api.Errno
	}{
		{nil, 0, nil, api.ErrTs}, {nil, 1, nil, api.ErrNone}, {[]api.Version{}, 7, nil, api.ErrNone},
		{nil, last, nil, api.ErrNone}, {nil, last + 1, nil, api.ErrTs}, {nil, math.MaxUint64, nil, api.ErrTs},
		{row(5, 0, 7), 0, nil, api.ErrTs}, {row(5, 0, 7), 4, nil, api.ErrTs}, {row(5, 0, 7), 5, nil, api.ErrTs},
		{row(5, 0, 7), 6, row(5, 6, 7), api.OK}, {row(5, 0, 7), last, row(5, last, 7), api.OK}, {row(5, 0, 7), last + 1, nil, api.ErrTs},
		{row(5, 8, 7), 7, nil, api.ErrTs}, {row(5, 8, 7), 8, nil, api.ErrTs}, {row(5, 8, 7), 9, nil, api.ErrNone},
		{row(5, 8, 7), last, nil, api.ErrNone}, {row(5, 8, 7), last + 1, nil, api.ErrTs}, {row(5, 8, 7), 1 << 63, nil, api.ErrTs},
		{row(last, 0, 7), last, nil, api.ErrTs}, {row(last, 0, 7), last + 1, nil, api.ErrTs}, {row(5, last, 7), last, nil, api.ErrTs},
		{row(last-1, 0, 7), last, row(last-1, last, 7), api.OK},
		{row(3, 5, 7, 5, 0, 8), 6, row(3, 5, 7, 5, 6, 8), api.OK},
	} {
		dels(t, c.c, c.ts, c.want, c.err)
	}
}

// P8.3: each chain, at each Begin and End, one below and one above, and at the utmost times, as the chapter words it.
func TestPutAndDelAtAllTimes(t *testing.T) {
	for _, c := range goodChains() {
		v := []int32{most}
		if len(c) > 0 {
			v = c[0].Vec
		}
		for _, ts := range timesOf(c) {
			want, err := wordedPut(c, ts, v)
			puts(t, c, ts, v, want, err)
			want, err = wordedDel(c, ts)
			dels(t, c, ts, want, err)
		}
	}
}

// P8.3: vectors of each kind, onto chains of each dimension, and onto none.
func TestPutOfVectors(t *testing.T) {
	for _, v := range slices.Concat(goodVecs(), badVecs()) {
		for _, c := range [][]api.Version{nil, one(3, 0, 1), one(3, 5, 1, 2), one(3, 0, 1, 2, 3), one(3, 5, 1, 2, 3, 4), long(full-1, 10, true, 1, 2)} {
			want, err := wordedPut(c, last, v)
			puts(t, c, last, v, want, err)
		}
	}
	for _, v := range goodVecs() {
		puts(t, nil, 3, v, one(3, 0, v...), api.OK)
	}
	puts(t, nil, 3, nil, nil, api.ErrVec)
	puts(t, nil, 3, make([]int32, 5), nil, api.ErrVec)
	puts(t, one(1, 0, 1, 2), 3, []int32{1}, nil, api.ErrDim)
	puts(t, one(1, 2, 1, 2), 3, []int32{1, 2, 3}, nil, api.ErrDim)
	puts(t, one(1, 2, 1, 2), 3, []int32{1, 2, 3, 4, 5}, nil, api.ErrVec)
	puts(t, one(1, 2, 1, 2), 3, []int32{most + 1}, nil, api.ErrVec)
}

// P8.3: onto MaxVersions, and one less; what is deleted needs no room.
func TestPutOntoFull(t *testing.T) {
	for _, open := range []bool{true, false} {
		c := long(full-1, 10, open, 5)
		want := append(wordedEnd(c, last-1), row(last-1, 0, 6)...)
		puts(t, c, last-1, []int32{6}, want, api.OK)
		puts(t, want, last, []int32{6}, nil, api.ErrFull)
		puts(t, long(full, 10, open, 5), last, []int32{6}, nil, api.ErrFull)
		dels(t, want, last, wordedEnd(want, last), api.OK)
		puts(t, wordedEnd(want, last-1), last, []int32{6}, nil, api.ErrChain)
	}
}

// P8.3, P8.4: ErrChain goes ahead of all else, of chains of each fault.
func TestOfBad(t *testing.T) {
	for _, c := range badChains() {
		for _, ts := range []uint64{0, 1, 6, last, last + 1, math.MaxUint64} {
			for _, v := range [][]int32{{1, 2}, {1}, nil, {most + 1}} {
				puts(t, c, ts, v, nil, api.ErrChain)
			}
			dels(t, c, ts, nil, api.ErrChain)
			if stay, gone, err := Prune(c, ts); len(stay) != 0 || len(gone) != 0 || err != api.ErrChain {
				t.Errorf("Prune(%v, %d): %v, %v, %d", c, ts, stay, gone, err)
			}
		}
	}
}

// P8.3: with two faults at once, and more, the one that is named first is told.
func TestOrderOfErrors(t *testing.T) {
	bad, broken := []int32{1, most + 1}, row(3, 3, 7)
	for _, c := range []struct {
		c    []api.Version
		ts   uint64
		v    []int32
		want api.Errno
	}{
		{broken, 0, []int32{1}, api.ErrChain}, {broken, last + 1, []int32{1}, api.ErrChain},
		{broken, 9, bad, api.ErrChain}, {broken, 9, []int32{1, 2}, api.ErrChain}, {long(full+1, 10, true, 1), last, []int32{1}, api.ErrChain},
		{row(3, 0, 7), 3, bad, api.ErrTs}, {row(3, 0, 7), 3, []int32{1, 2}, api.ErrTs}, {row(3, 0, 7), last + 1, nil, api.ErrTs}, {nil, 0, nil, api.ErrTs},
		{long(full, 10, true, 1), 951, []int32{1}, api.ErrTs}, {long(full, 10, false, 1), last + 1, []int32{1}, api.ErrTs},
		{row(3, 0, 7), 4, bad, api.ErrVec}, {row(3, 0, 7), 4, nil, api.ErrVec}, {long(full, 10, true, 1), last, bad, api.ErrVec}, {long(full, 10, true, 1, 2), last, nil, api.ErrVec},
		{long(full, 10, true, 1), last, []int32{1, 2}, api.ErrDim}, {long(full, 10, false, 1, 2), last, []int32{1}, api.ErrDim},
		{long(full, 10, true, 1), last, []int32{1}, api.ErrFull}, {long(full, 10, false, 1), last, []int32{1}, api.ErrFull},
	} {
		puts(t, c.c, c.ts, c.v, nil, c.want)
		if _, err := wordedPut(c.c, c.ts, c.v); err != c.want {
			t.Errorf("the words say %d, not %d", err, c.want)
		}
	}
	dels(t, broken, 0, nil, api.ErrChain)
	dels(t, broken, 9, nil, api.ErrChain)
	dels(t, long(full+1, 10, false, 1), last, nil, api.ErrChain)
	dels(t, row(3, 5, 7), 5, nil, api.ErrTs)
	dels(t, row(3, 5, 7), last+1, nil, api.ErrTs)
	dels(t, nil, 0, nil, api.ErrTs)
	dels(t, long(full, 10, false, 1), 5, nil, api.ErrTs)
	dels(t, long(full, 10, false, 1), last, nil, api.ErrNone)
}

// P8.4: floors at the edges, written out.
func TestPruneEdges(t *testing.T) {
	open, ended := row(3, 5, 7, 5, 0, 8), row(3, 5, 7, 8, 9, 8)
	for _, floor := range []uint64{0, 1, 2, 3, 4} {
		prunes(t, open, floor, open, nil)
		prunes(t, ended, floor, ended, nil)
	}
	for _, floor := range []uint64{5, 6, last, last + 1, 1 << 63, math.MaxUint64} {
		prunes(t, open, floor, row(5, 0, 8), row(3, 5, 7))
	}
	for _, floor := range []uint64{5, 6, 7, 8} {
		prunes(t, ended, floor, row(8, 9, 8), row(3, 5, 7))
	}
	for _, floor := range []uint64{9, 10, last, last + 1, 1 << 63, math.MaxUint64} {
		prunes(t, ended, floor, nil, ended)
		prunes(t, nil, floor, nil, nil)
		prunes(t, row(2, 0, 7), floor, row(2, 0, 7), nil)
	}
	prunes(t, []api.Version{}, 0, nil, nil)
	prunes(t, row(1, last, 7), last-1, row(1, last, 7), nil)
	prunes(t, row(1, last, 7), last, nil, row(1, last, 7))
}

// P8.4: each chain, at floors around each Begin and End, and at the utmost ones, as the chapter words it.
func TestPruneAtAllFloors(t *testing.T) {
	for _, c := range goodChains() {
		for _, floor := range timesOf(c) {
			stay, gone := wordedPrune(c, floor)
			prunes(t, c, floor, stay, gone)
		}
	}
}
