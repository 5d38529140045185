package clock

import (
	"testing"

	"quiver/api"
)

// P15.2 to P15.4: the chapter's examples.
func TestExamples(t *testing.T) {
	nexts(t, at(0, 0), 1, api.OK)
	nexts(t, at(9, 3), 9, api.OK)
	nexts(t, at(3, 9), 10, api.OK)
	ticks(t, at(5, 2), -9, at(0, 2), api.OK)
	ticks(t, at(5, 2), 4, at(9, 2), api.OK)
	runs(t, at(0, 0), []int64{3, -3, 0, 9}, at(9, 9), []uint64{3, 4, 5, 9}, api.OK)
	nexts(t, at(0, 1<<40), 0, api.ErrExhausted)
	takes(t, at(1<<40, 5), at(1<<40, 1<<40), 1<<40, api.OK)
}

// P15.2: each clock by each tick, held against whole numbers without a bound.
func TestTickAsWorded(t *testing.T) {
	for _, c := range edgeClocks() {
		for _, by := range edgeTicks(c.Now) {
			want, err := wordedTick(c, by)
			ticks(t, c, by, want, err)
		}
	}
	for _, c := range goodClocks() {
		for _, by := range scattered(c.Now+3*c.Last, 60) {
			want, err := wordedTick(c, by)
			ticks(t, c, by, want, err)
		}
	}
}

// P15.2: written out: to both ends, just so, one less and one more, and by the utmost ticks; whatever Last is, it stays.
func TestTickEdges(t *testing.T) {
	for _, l := range goodTimes() {
		for _, c := range []struct {
			now  uint64
			by   int64
			want uint64
		}{
			{0, 0, 0}, {0, 1, 1}, {0, -1, 0}, {0, last - 1, last - 1}, {0, last, last}, {0, last + 1, last}, {0, most, last}, {0, least, 0},
			{1, 0, 1}, {1, 1, 2}, {1, -1, 0}, {1, -2, 0}, {1, most, last}, {1, least, 0},
			{500, 0, 500}, {500, 1, 501}, {500, -1, 499}, {500, -499, 1}, {500, -500, 0}, {500, -501, 0},
			{500, last - 501, last - 1}, {500, last - 500, last}, {500, last - 499, last}, {500, most, last}, {500, least, 0},
			{500, most - 500, last}, {500, most - 499, last}, {500, least + 500, 0},
			{last - 1, 0, last - 1}, {last - 1, 1, last}, {last - 1, 2, last}, {last - 1, 1 - last, 0}, {last - 1, most, last}, {last - 1, least, 0},
			{last, 0, last}, {last, 1, last}, {last, -1, last - 1}, {last, 1 - last, 1}, {last, -last, 0}, {last, -last - 1, 0},
			{last, most, last}, {last, most - 1, last}, {last, least, 0}, {last, least + 1, 0}, {last, most - last, last}, {last, most - last + 1, last},
		} {
			ticks(t, at(c.now, l), c.by, at(c.want, l), api.OK)
		}
	}
}

// P15.2: as far as no end is met, two ticks are one by both together, and there and back leads to where it was.
func TestTicksTogether(t *testing.T) {
	for x := int64(-20); x <= 20; x++ {
		for y := int64(-20); y <= 20; y++ {
			c, err := Tick(at(50, 7), x)
			if err != api.OK {
				t.Errorf("%d: %d", x, err)
			}
			ticks(t, c, y, at(uint64(50+x+y), 7), api.OK)
			ticks(t, c, -x, at(50, 7), api.OK)
		}
	}
	// What goes beyond an end is not owed.
	c, _ := Tick(at(5, 2), -9)
	ticks(t, c, 9, at(9, 2), api.OK)
	c, _ = Tick(at(last-5, 2), 9)
	ticks(t, c, -9, at(last-9, 2), api.OK)
}
