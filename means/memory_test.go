package means

import (
	"slices"
	"testing"

	"quiver/api"
)

// given is all that is handed in to one call or another.
type given struct {
	c, l  [][]int32
	v     []int32
	draws []int
}

// answer is what a call answers.
type answer struct {
	l      [][]int32
	places []int
	err    api.Errno
}

// roomy is v with room behind its end in which something stands.
func roomy(v []int32) []int32 {
	return slices.Concat(v, []int32{99, 98, 97})[:len(v)]
}

func roomyAll(l [][]int32) [][]int32 {
	m := slices.Concat(l, ones(95, 94))
	for i := range m {
		m[i] = roomy(m[i])
	}
	return m[:len(l)]
}

// behind is g with memory of its own, and with room behind each end in which something stands.
func behind(g given) given {
	return given{roomyAll(g.c), roomyAll(g.l), roomy(g.v), slices.Concat(g.draws, []int{93, 92})[:len(g.draws)]}
}

// told are all numbers that stand in what behind made, in the room behind its ends too.
func told(g given) []int {
	l := append([]int{len(g.c), len(g.l), len(g.draws)}, g.draws[:len(g.draws)+2]...)
	for _, v := range slices.Concat(g.c[:len(g.c)+2], g.l[:len(g.l)+2], [][]int32{g.v}) {
		l = append(l, len(v))
		for _, component := range v[:len(v)+3] {
			l = append(l, int(component))
		}
	}
	return l
}

// wipe sets all that stands in l, and in the room behind its ends, to another thing.
func wipe(l [][]int32) {
	for _, v := range l[:cap(l)] {
		v = v[:cap(v)]
		for i := range v {
			v[i] = -555
		}
	}
	l = l[:cap(l)]
	for i := range l {
		l[i] = []int32{-555}
	}
}

func wipeNumbers(l []int) {
	l = l[:cap(l)]
	for i := range l {
		l[i] = -555
	}
}

func wipeGiven(g given) {
	wipe(g.c)
	wipe(g.l)
	wipe([][]int32{g.v})
	wipeNumbers(g.draws)
}

// kept is the answer in memory of its own.
func kept(a answer) answer {
	return answer{own(a.l), slices.Clone(a.places), a.err}
}

func alike(a, b answer) bool {
	return wordedSame(a.l, b.l) && slices.Equal(a.places, b.places) && a.err == b.err
}

// calls are all of them.
func calls() []func(g given) answer {
	return []func(g given) answer{
		func(g given) answer {
			c, err := Start(g.l, g.draws)
			return answer{c, nil, err}
		},
		func(g given) answer {
			place, err := Assign(g.c, g.v)
			return answer{nil, []int{place}, err}
		},
		func(g given) answer {
			places, err := Parts(g.c, g.l)
			return answer{nil, places, err}
		},
		func(g given) answer {
			c, err := Round(g.c, g.l)
			return answer{c, nil, err}
		},
		func(g given) answer {
			c, err := Train(g.l, g.draws)
			return answer{c, nil, err}
		},
		func(g given) answer {
			if Same(g.c, g.l) {
				return answer{nil, []int{1}, api.OK}
			}
			return answer{}
		},
	}
}

// allGiven are arguments of all kinds: that may be and that may not.
func allGiven() []given {
	var l []given
	for dim := 1; dim <= 3; dim++ {
		for i, c := range append(goodCentroids(dim), nil, ones(1, 2, 3, 4, 5, 6, 7), [][]int32{{1}, nil}, [][]int32{{1}, {2, 3}}) {
			for j, vectors := range append(goodVectors(dim), nil, filled(trained+1, dim, 0), ones(1, most+1), [][]int32{{1}, {2, 3}}) {
				if (i+j)%5 == 0 {
					draws := goodDraws(len(vectors) + 1)
					l = append(l, given{c, vectors, make([]int32, dim), draws[i%len(draws)]})
				}
			}
		}
		l = append(l, given{filled(2, dim, 1), filled(2, dim, 1), nil, nil}, given{ones(1, 2), ones(1, 2), []int32{1, 2, 3, 4, 5}, []int{-1}})
	}
	return append(l, given{})
}

// R3, R5: what is handed in stays as it is, the room behind its ends too, and is not kept; what is answered is new memory, each time the same.
func TestMemory(t *testing.T) {
	for _, g := range allGiven() {
		for i, do := range calls() {
			mine := behind(g)
			was := told(mine)
			first, again := do(mine), do(mine)
			if !slices.Equal(told(mine), was) {
				t.Errorf("call %d of %v: what was handed in is %v", i, g, mine)
			}
			want := kept(first)
			if !alike(again, want) {
				t.Errorf("call %d of %v: %v, and then %v", i, g, want, again)
			}
			wipe(again.l)
			wipeNumbers(again.places)
			if !slices.Equal(told(mine), was) {
				t.Errorf("call %d of %v: what is answered shares memory with what was handed in", i, g)
			}
			wipeGiven(mine)
			if !alike(first, want) {
				t.Errorf("call %d of %v: %v is %v now", i, g, want, first)
			}
			if later := do(behind(g)); !alike(later, want) {
				t.Errorf("call %d of %v: %v, and later %v", i, g, want, later)
			}
		}
	}
}

// R3: no two vectors of one answer share memory, the same one drawn twice neither, nor the room behind their ends.
func TestAnswersApart(t *testing.T) {
	for _, g := range allGiven() {
		for i, do := range calls() {
			l := do(behind(g)).l
			for place := range l {
				others := own(l)
				v := l[place][:cap(l[place])]
				for j := range v {
					v[j] = -777
				}
				others[place] = slices.Clone(l[place])
				if !wordedSame(l, others) {
					t.Errorf("call %d of %v: the one at %d shares memory with another", i, g, place)
				}
			}
		}
	}
}

// R3: vectors and centroids may share memory.
func TestSharedVectors(t *testing.T) {
	v := []int32{4, 5}
	l := slices.Repeat([][]int32{v}, lists)
	turns(t, l, l, own(l), api.OK)
	assigns(t, l, v, 0, api.OK)
	trains(t, l, []int{0, 1, 2, 3, 4, 5}, own(l), api.OK)
	if !slices.Equal(v, []int32{4, 5}) {
		t.Errorf("%v", v)
	}
}

// R5: the same arguments have the same answers, whatever was asked between.
func TestAskedAgain(t *testing.T) {
	all := allGiven()
	var wants []answer
	for _, g := range all {
		for _, do := range calls() {
			wants = append(wants, do(g))
		}
	}
	slices.Reverse(wants)
	slices.Reverse(all)
	for _, g := range all {
		asks := calls()
		slices.Reverse(asks)
		for _, do := range asks {
			if got := do(g); !alike(got, wants[0]) {
				t.Errorf("%v: %v, and then %v", g, wants[0], got)
			}
			wants = wants[1:]
		}
	}
}
