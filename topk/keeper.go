package topk

import (
	"container/heap"

	"quiver/api"
	"quiver/vec"
)

// pile is hits as a heap. Its root is the last one of them, as that one is the first to leave.
type pile []api.Hit

func (p pile) Len() int { return len(p) }

func (p pile) Less(i, j int) bool { return vec.Compare(p[i], p[j]) > 0 }

func (p pile) Swap(i, j int) { p[i], p[j] = p[j], p[i] }

func (p *pile) Push(x any) { *p = append(*p, x.(api.Hit)) }

func (p *pile) Pop() any {
	end := len(*p) - 1
	hit := (*p)[end]
	*p = (*p)[:end]
	return hit
}

// furthest is the root; there has to be one.
func (p pile) furthest() api.Hit { return p[0] }

// keeper has room for that many hits, from 1 on.
type keeper struct {
	pile
	most int
}

// take lets the hit in. If there is no room, the furthest one leaves for it.
func (k *keeper) take(hit api.Hit) {
	if k.Len() < k.most {
		heap.Push(k, hit)
		return
	}
	k.pile[0] = hit
	heap.Fix(k, 0)
}

// empty answers the hits in order, and keeps none.
func (k *keeper) empty() []api.Hit {
	hits := make([]api.Hit, k.Len())
	for i := range hits {
		// They leave the furthest one first.
		hits[len(hits)-1-i] = k.furthest()
		heap.Pop(k)
	}
	return hits
}
