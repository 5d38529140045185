package chain

import (
	"math"
	"slices"

	"quiver/api"
)

// Here stands what the chapter says, once more and as plainly as it does, with what is asked of all calls.

const (
	last  = 1099511627776 // the greatest time of a version
	full  = 96            // how many versions a chain has at most
	most  = 1073741823    // the greatest component
	least = -most
)

// row is versions of one component: Begin, End and that, three by three.
func row(l ...int) []api.Version {
	var c []api.Version
	for i := 0; i < len(l); i += 3 {
		c = append(c, api.Version{Begin: uint64(l[i]), End: uint64(l[i+1]), Vec: []int32{int32(l[i+2])}})
	}
	return c
}

// one is a version alone.
func one(begin, end uint64, v ...int32) []api.Version {
	return []api.Version{{Begin: begin, End: end, Vec: v}}
}

// own is c with memory of its own.
func own(c []api.Version) []api.Version {
	l := slices.Clone(c)
	for i := range l {
		l[i].Vec = slices.Clone(l[i].Vec)
	}
	return l
}

func wordedVec(v []int32) bool {
	tooFar := func(component int32) bool { return component < least || component > most }
	return len(v) >= 1 && len(v) <= 4 && !slices.ContainsFunc(v, tooFar)
}

func wordedVersion(v api.Version) bool {
	ends := v.End == 0 || v.End > v.Begin && v.End <= last
	return v.Begin >= 1 && v.Begin <= last && ends && wordedVec(v.Vec)
}

func wordedChain(c []api.Version) bool {
	for i, v := range c {
		if !wordedVersion(v) || len(v.Vec) != len(c[0].Vec) {
			return false
		}
		if i+1 < len(c) && (v.Begin >= c[i+1].Begin || v.End == 0 || v.End > c[i+1].Begin) {
			return false
		}
	}
	return len(c) <= full
}

// wordedLast is the greatest Begin or End.
func wordedLast(c []api.Version) uint64 {
	var greatest uint64
	for _, v := range c {
		greatest = max(greatest, v.Begin, v.End)
	}
	return greatest
}

// wordedAt are the places of all versions that are visible at t.
func wordedAt(c []api.Version, t uint64) []int {
	var l []int
	for i, v := range c {
		if v.Begin <= t && (v.End == 0 || t < v.End) {
			l = append(l, i)
		}
	}
	return l
}

// vecAt is what is visible at t; nil, if nothing is.
func vecAt(c []api.Version, t uint64) []int32 {
	for _, i := range wordedAt(c, t) {
		return c[i].Vec
	}
	return nil
}

// wordedOpen tells whether the chain has an open version, which is its last one.
func wordedOpen(c []api.Version) bool {
	return len(c) > 0 && c[len(c)-1].End == 0
}

// wordedEnd is the chain whose open version, if there is one, ends at ts.
func wordedEnd(c []api.Version, ts uint64) []api.Version {
	l := own(c)
	if wordedOpen(l) {
		l[len(l)-1].End = ts
	}
	return l
}

func wordedPut(c []api.Version, ts uint64, v []int32) ([]api.Version, api.Errno) {
	switch {
	case !wordedChain(c):
		return nil, api.ErrChain
	case ts <= wordedLast(c) || ts > last:
		return nil, api.ErrTs
	case !wordedVec(v):
		return nil, api.ErrVec
	case len(c) > 0 && len(c[0].Vec) != len(v):
		return nil, api.ErrDim
	case len(c) == full:
		return nil, api.ErrFull
	}
	return append(wordedEnd(c, ts), one(ts, 0, v...)...), api.OK
}

func wordedDel(c []api.Version, ts uint64) ([]api.Version, api.Errno) {
	switch {
	case !wordedChain(c):
		return nil, api.ErrChain
	case ts <= wordedLast(c) || ts > last:
		return nil, api.ErrTs
	case !wordedOpen(c):
		return nil, api.ErrNone
	}
	return wordedEnd(c, ts), api.OK
}

func wordedPrune(c []api.Version, floor uint64) (stay, gone []api.Version) {
	for _, v := range c {
		if v.End == 0 || v.End > floor {
			stay = append(stay, v)
		} else {
			gone = append(gone, v)
		}
	}
	return stay, gone
}

// small are all chains with times from 1 to the greatest; each version's component tells its place.
func small(greatest uint64) [][]api.Version {
	l := [][]api.Version{nil}
	for i := 0; i < len(l); i++ {
		c := l[i]
		if wordedOpen(c) {
			continue
		}
		for begin := max(1, wordedLast(c)); begin <= greatest; begin++ {
			l = append(l, append(own(c), one(begin, 0, int32(len(c)))...))
			for end := begin + 1; end <= greatest; end++ {
				l = append(l, append(own(c), one(begin, end, int32(len(c)))...))
			}
		}
	}
	return l
}

// moved is c, all of whose times are later by so much.
func moved(c []api.Version, by uint64) []api.Version {
	l := own(c)
	for i := range l {
		l[i].Begin += by
		if l[i].End != 0 {
			l[i].End += by
		}
	}
	return l
}

// long are n versions, one each ten times, that are visible for so many of these; the last one is open, or not.
func long(n int, width uint64, open bool, v ...int32) []api.Version {
	var c []api.Version
	for i := range uint64(n) {
		c = append(c, one(10*i+1, 10*i+1+width, v...)...)
	}
	if open && n > 0 {
		c[n-1].End = 0
	}
	return own(c)
}

// goodVecs are vectors that may be: of each dimension, with the utmost components at each place.
func goodVecs() [][]int32 {
	var l [][]int32
	for dim := 1; dim <= 4; dim++ {
		l = append(l, []int32{7, -8, 9, -10}[:dim])
		for place := range dim {
			for _, component := range []int32{most, least} {
				v := make([]int32, dim)
				v[place] = component
				l = append(l, v)
			}
		}
	}
	return l
}

// badVecs are vectors that may not be: of no components, of too many, and with one beyond the bounds at each place.
func badVecs() [][]int32 {
	l := [][]int32{nil, {}, {1, 2, 3, 4, 5}, make([]int32, 257), make([]int32, 260)}
	for dim := 1; dim <= 4; dim++ {
		for place := range dim {
			for _, component := range []int32{most + 1, least - 1, math.MaxInt32, math.MinInt32} {
				v := make([]int32, dim)
				v[place] = component
				l = append(l, v)
			}
		}
	}
	return l
}

// goodChains are chains that may be: of none, of each length at the edges, open and not, with gaps and without, of each vector, and around the greatest time.
func goodChains() [][]api.Version {
	l := append(small(5), []api.Version{})
	for _, c := range small(4) {
		l = append(l, moved(c, last-4))
	}
	for _, n := range []int{1, 2, full / 2, full - 1, full} {
		for _, open := range []bool{true, false} {
			for _, v := range goodVecs() {
				l = append(l, long(n, 10, open, v...))
			}
			l = append(l, long(n, 1, open, 5), long(n, 9, open, 5, 6))
		}
	}
	atTheEnd := long(full, 10, false, 5)
	atTheEnd[full-1].End = last
	l = append(l, atTheEnd, row(1, last, 5), row(1, last, 5, last, 0, 6), row(last, 0, 5), row(last-1, last, 5), row(1, 0, 5))
	return l
}

// badChains are chains that may not be, by one fault each, at each place of theirs; and ones that are too long.
func badChains() [][]api.Version {
	var l [][]api.Version
	for _, n := range []int{1, 2, 3, full} {
		for place := range n {
			for _, open := range []bool{true, false} {
				l = append(l, spoiled(long(n, 8, open, 5, 6), place)...)
			}
		}
	}
	for _, n := range []int{full + 1, full + 2, 2 * full, 256, 257, 5000} {
		l = append(l, long(n, 10, true, 5), long(n, 10, false, 5), long(n, 3, true, 5), long(n, 3, false, 5))
	}
	return l
}

// spoiled are chains that have one fault, each in its own way, at a place of c, which is one of long, with a width of 8.
func spoiled(c []api.Version, place int) [][]api.Version {
	var l [][]api.Version
	with := func(spoil func(v *api.Version)) {
		d := own(c)
		spoil(&d[place])
		l = append(l, d)
	}
	begin := c[place].Begin
	with(func(v *api.Version) { v.Begin = 0 })
	with(func(v *api.Version) { v.Begin, v.End = last+1, 0 })
	with(func(v *api.Version) { v.Begin, v.End = last+1, last+2 })
	with(func(v *api.Version) { v.Begin, v.End = math.MaxUint64, 0 })
	with(func(v *api.Version) { v.End = begin })
	for _, end := range []uint64{last + 1, math.MaxUint64} {
		with(func(v *api.Version) { v.End = end })
	}
	if begin > 1 {
		with(func(v *api.Version) { v.End = begin - 1 })
	}
	for _, v := range badVecs() {
		with(func(w *api.Version) { w.Vec = v })
	}
	if len(c) > 1 {
		with(func(v *api.Version) { v.Vec = []int32{5} })
		with(func(v *api.Version) { v.Vec = []int32{5, 6, 7} })
	}
	if place+1 < len(c) {
		next := c[place+1].Begin
		with(func(v *api.Version) { v.End = 0 })
		with(func(v *api.Version) { v.End = next + 1 })
		with(func(v *api.Version) { v.End = last })
		with(func(v *api.Version) { v.Begin, v.End = next, next+1 })
		with(func(v *api.Version) { v.Begin, v.End = next+1, next+2 })
	}
	return l
}

// timesOf are the times at each Begin and End, one below and one above, and the utmost ones.
func timesOf(c []api.Version) []uint64 {
	l := []uint64{0, 1, 2, last - 1, last, last + 1, 1 << 41, 1<<63 - 1, 1 << 63, math.MaxUint64 - 1, math.MaxUint64}
	for _, v := range c {
		l = append(l, v.Begin-1, v.Begin, v.Begin+1, v.End-1, v.End, v.End+1)
	}
	slices.Sort(l)
	return slices.Compact(l)
}
