package clock

import (
	"iter"

	"quiver/api"
)

// steps tells how c stands behind each tick and what is taken behind it; with an error, where nothing can be.
func steps(c api.Clock, by []int64) iter.Seq2[api.Clock, api.Errno] {
	return func(yield func(at api.Clock, err api.Errno) bool) {
		at, err := c, api.OK
		for _, tick := range by {
			at, err = step(at, tick)
			if !yield(at, err) {
				return
			}
		}
	}
}

// step is c behind a Tick and a Take; behind the Tick alone, if the Take has an error.
func step(c api.Clock, by int64) (api.Clock, api.Errno) {
	ticked, err := Tick(c, by)
	if err != api.OK {
		return api.Clock{}, err
	}
	taken, _, err := Take(ticked)
	if err != api.OK {
		return ticked, err
	}
	return taken, api.OK
}
