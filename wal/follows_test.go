package wal

import (
	"bytes"
	"math/rand"
	"slices"
	"strconv"
	"testing"

	"quiver/api"
	"quiver/disk"
)

// doing is something that is done to a log, and its parts behind it.
type doing struct {
	what  string
	do    func(w *Wal) api.Errno
	after [][]byte
}

func appending(b []byte, ahead ...[]byte) doing {
	return doing{
		"Append of " + strconv.Itoa(len(b)),
		func(w *Wal) api.Errno { return w.Append(b) },
		slices.Concat(ahead, [][]byte{b}),
	}
}

func checkpointing(b []byte) doing {
	return doing{
		"Checkpoint of " + strconv.Itoa(len(b)),
		func(w *Wal) api.Errno { return w.Checkpoint(b) },
		[][]byte{b},
	}
}

// doings are those to the log of filled.
func doings() []doing {
	var l []doing
	for _, n := range []int{0, 3, 4, 5, 20, 70} {
		l = append(l, appending(counted(n, n), parts()...), checkpointing(counted(n, n)))
	}
	return append(l, appending(make([]byte, 30), parts()...), checkpointing(make([]byte, 30)))
}

// keeps are all that Crash can be told of so few pieces: each number of them from the first one on, then each one alone and each one left out.
func keeps(pieces int) [][]bool {
	l := [][]bool{nil}
	for n := range pieces {
		some := make([]bool, pieces)
		for i := range n + 1 {
			some[i] = true
		}
		alone, without := make([]bool, pieces), slices.Repeat([]bool{true}, pieces)
		alone[n], without[n] = true, false
		l = append(l, some, alone, without)
	}
	return l
}

// openings opens what is on the disk, and opens it again, also behind losses of power in Open; the parts have to be one of those rows, and stay it. It answers which.
func openings(t *testing.T, what string, d *disk.Disk, most int, rows ...[][]byte) int {
	t.Helper()
	first := d.Copy()
	w := opened(t, what, first)
	which := slices.IndexFunc(rows, func(row [][]byte) bool {
		return slices.EqualFunc(row, slices.Concat([][]byte{w.Snapshot()}, w.All()), bytes.Equal)
	})
	if which < 0 {
		t.Fatalf("%s: it has %v, %v", what, w.Snapshot(), w.All())
	}
	whole(t, what, w, first, most, rows[which]...)
	whole(t, what+", again", opened(t, what, first), first, most, rows[which]...)
	for n := range 3 {
		c := d.Copy()
		c.Arm(n)
		Open(c)
		c.Crash(nil)
		whole(t, what+", power lost in Open", opened(t, what, c), c, most, rows[which]...)
	}
	w = opened(t, what, d)
	whole(t, what+", the power lost behind it", w, d, most, rows[which]...)
	d.Crash(nil)
	whole(t, what+", the power lost behind it", opened(t, what, d), d, most, rows[which]...)
	return which
}

// P4.6: the power lost at each step of each doing, with each number of pieces that live: what it had, or what it was about to have, never a part of it; and that it stays.
func TestPowerLostAtEachStep(t *testing.T) {
	for _, c := range doings() {
		seen := [2]bool{}
		for n := range 4 {
			_, d := filled(t)
			w := opened(t, c.what, d)
			d.Arm(n)
			err := c.do(w)
			pieces := len(d.Pending())
			for _, keep := range keeps(pieces) {
				what := c.what + ", the power goes at " + strconv.Itoa(n)
				e := d.Copy()
				e.Crash(keep)
				which := openings(t, what, e, 200, parts(), c.after)
				seen[which] = true
				if err == api.OK && which == 0 {
					t.Errorf("%s: what was answered OK is lost", what)
				}
			}
		}
		if seen != [2]bool{true, true} {
			t.Errorf("%s: seen before and behind: %v", c.what, seen)
		}
	}
}

// P4.6: with each number of bytes of a record's frame that live, told how many, the record is there just if all of them do.
func TestBytesThatLive(t *testing.T) {
	for _, size := range []int{0, 1, 4, 12, 60} {
		for n := range 2 {
			_, d := filled(t)
			w := opened(t, "filled", d)
			d.Arm(n)
			is(t, "Append", w.Append(counted(0, size)), api.ErrDead)
			for k := range len(d.Pending()) + 1 {
				e := d.Copy()
				e.Crash(slices.Repeat([]bool{true}, k))
				live := min(8*k, 12+size)
				if e.Size(0) != 85+live {
					t.Fatalf("%d bytes live, not %d", e.Size(0)-85, live)
				}
				which := openings(t, strconv.Itoa(live)+" bytes live", e, 200, parts(), parts(counted(0, size)))
				if (which == 1) != (live == 12+size) {
					t.Errorf("%d of %d bytes live: row %d", live, 12+size, which)
				}
			}
		}
	}
}

// P4.6: the power lost at each step of Format: the log that was there, or none if none was; or the new one.
func TestPowerLostInFormat(t *testing.T) {
	for n := range 5 {
		for _, there := range []bool{false, true} {
			what := "the power goes at " + strconv.Itoa(n)
			d := diskOf(t, 440, map[int][]byte{1: counted(1, 9)})
			if there {
				_, d = filled(t)
				d.Append(1, counted(1, 9))
				d.Sync(1)
			}
			d.Arm(n)
			_, err := Format(d, 200)
			if (err == api.OK) != (n == 4) {
				t.Errorf("%s: %d", what, err)
			}
			for _, keep := range keeps(len(d.Pending())) {
				e := d.Copy()
				e.Crash(keep)
				switch {
				case n == 4:
					openings(t, what, e, 200, [][]byte{nil})
				case there:
					openings(t, what, e, 200, parts())
				default:
					w, err := Open(e)
					if w != nil || err != api.ErrWal {
						t.Errorf("%s: %v, %d", what, w, err)
					}
				}
			}
		}
	}
}

// P4.6: behind an operation that fails, and behind it a loss of power, the same: a record whole or not at all, a snapshot only if its file had the log's name.
func TestBrokenThenPowerLost(t *testing.T) {
	for _, c := range doings() {
		for n := range 3 {
			_, d := filled(t)
			w := opened(t, c.what, d)
			d.Fail(n)
			if err := c.do(w); err == api.OK {
				continue
			}
			for _, keep := range keeps(len(d.Pending())) {
				e := d.Copy()
				e.Crash(keep)
				openings(t, c.what+", it fails at "+strconv.Itoa(n), e, 200, parts(), c.after)
			}
		}
	}
}

// P4.6: other files stay as they are, loose bytes and those of a log too.
func TestOtherFiles(t *testing.T) {
	for _, c := range doings() {
		for n := range 4 {
			w, d := filled(t)
			others := map[int][]byte{2: counted(70, 19), 3: fileOf(64, nil)}
			d.Append(2, others[2][:11])
			d.Sync(2)
			d.Append(2, others[2][11:])
			d.Append(3, others[3])
			d.Arm(n)
			c.do(w)
			for name, b := range others {
				has(t, c.what, d, name, b)
			}
			if pending := slices.DeleteFunc(d.Pending(), func(name int) bool { return name < 2 }); !slices.Equal(pending, []int{2, 3, 3, 3, 3}) {
				t.Errorf("%s: other files have the pieces %v", c.what, pending)
			}
			d.Crash(slices.Repeat([]bool{true}, 30))
			opened(t, c.what, d)
			for name, b := range others {
				has(t, c.what+", opened", d, name, b)
			}
		}
	}
	_, d := filled(t)
	d.Append(3, counted(1, 9))
	_, err := Format(d, 100)
	is(t, "Format", err, api.OK)
	has(t, "Format", d, 3, counted(1, 9))
	if !slices.Equal(d.Pending(), []int{3, 3}) {
		t.Errorf("Format: Pending %v", d.Pending())
	}
}

// life is a log that lives on a disk through whatever comes, and what it has to be.
type life struct {
	t     *testing.T
	r     *rand.Rand
	d     *disk.Disk
	w     *Wal
	most  int
	parts [][]byte
	doubt [][]byte // what it may have as well, if it is broken
}

func (l *life) cost() int {
	cost := 0
	for _, part := range l.parts {
		cost += len(part) + 12
	}
	return cost
}

// ask appends some bytes, or lays a snapshot of them, and holds the answer against what has to come.
func (l *life) ask() {
	b := counted(l.r.Intn(256), l.r.Intn(1+l.r.Intn(l.most)))
	take, after, room := l.w.Append, slices.Concat(l.parts, [][]byte{b}), l.most-l.cost()
	if l.r.Intn(5) == 0 {
		take, after, room = l.w.Checkpoint, [][]byte{b}, l.most
	}
	err := take(b)
	switch {
	case len(b)+12 > room:
		is(l.t, "what does not fit", err, api.ErrFull)
	case err == api.OK:
		l.parts = after
	default:
		l.doubt = after
		if err != api.ErrDead && err != api.ErrIo || !l.w.Broken() {
			l.t.Errorf("%d, Broken %v", err, l.w.Broken())
		}
	}
	tells(l.t, "asked", l.w, l.most, l.parts...)
}

// restart lets the power come back, with some pieces, and opens the log.
func (l *life) restart() {
	keep := make([]bool, len(l.d.Pending()))
	for i := range keep {
		keep[i] = l.r.Intn(4) != 0
	}
	l.d.Crash(keep)
	rows := [][][]byte{l.parts}
	if l.doubt != nil {
		rows = append(rows, l.doubt)
	}
	l.parts = rows[openings(l.t, "restart", l.d, l.most, rows...)]
	l.w, l.doubt = opened(l.t, "restart", l.d), nil
}

// P4.6: long lives, with losses of power and failures at whatever operation.
func TestLongLives(t *testing.T) {
	for seed := range 60 {
		l := life{t: t, r: rand.New(rand.NewSource(int64(seed))), most: []int{64, 100, 333, 2000}[seed%4], parts: [][]byte{nil}}
		l.w, l.d = formatted(t, l.most)
		for range 80 {
			switch l.r.Intn(6) {
			case 0:
				l.d.Arm(l.r.Intn(6))
			case 1:
				l.d.Fail(l.r.Intn(6))
			}
			l.ask()
			if l.w.Broken() || l.r.Intn(10) == 0 {
				l.restart()
			}
		}
	}
}
