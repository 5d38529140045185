package disk

import (
	"math"
	"slices"
	"testing"

	"quiver/api"
)

// operations are one of each kind that a busy disk does not refuse.
func operations() map[string]func(d *Disk) api.Errno {
	return map[string]func(d *Disk) api.Errno{
		"Append":           func(d *Disk) api.Errno { return d.Append(0, counted(20, 3)) },
		"Append of none":   func(d *Disk) api.Errno { return d.Append(2, nil) },
		"Sync":             func(d *Disk) api.Errno { return d.Sync(0) },
		"Read":             readOf(0),
		"Truncate":         func(d *Disk) api.Errno { return d.Truncate(0, 4) },
		"Rename":           func(d *Disk) api.Errno { return d.Rename(0, 2) },
		"Rename over":      func(d *Disk) api.Errno { return d.Rename(0, 1) },
		"Rename to itself": func(d *Disk) api.Errno { return d.Rename(1, 1) },
		"Remove":           func(d *Disk) api.Errno { return d.Remove(0) },
	}
}

// readOf reads the file; bytes beside an error are ErrArg, which Read never answers.
func readOf(file int) func(d *Disk) api.Errno {
	return func(d *Disk) api.Errno {
		b, err := d.Read(file)
		if err != api.OK && len(b) != 0 {
			return api.ErrArg
		}
		return err
	}
}

// refused are calls that a busy disk refuses, and those that are no operations.
func refused(d *Disk) {
	d.Append(4, nil)
	d.Append(0, counted(0, 101))
	d.Sync(-1)
	d.Sync(2)
	d.Read(2)
	d.Truncate(0, 21)
	d.Rename(2, 0)
	d.Rename(0, 4)
	d.Remove(2)
	d.Size(0)
	d.Files()
	d.Pending()
	d.Copy()
	d.Arm(-2)
	d.Fail(-2)
}

// untouched holds a disk against what busy made.
func untouched(t *testing.T, what string, d *Disk) {
	t.Helper()
	names(t, what+", Files", d.Files(), 0, 1, 3)
	names(t, what+", Pending", d.Pending(), 0, 0, 1, 1)
	holds(t, what, d, 0, counted(0, 20))
	holds(t, what, d, 1, counted(40, 9))
	holds(t, what, d, 3, counted(60, 5))
	c := d.Copy()
	must(t, c.Crash(nil))
	names(t, what+", Files behind a Crash", c.Files(), 0, 3)
	holds(t, what+", behind a Crash", c, 0, counted(0, 10))
}

// P2.5: Arm and Fail take -1 and all above it, nothing below; one that is refused leaves what was set.
func TestArmFailArguments(t *testing.T) {
	for _, n := range []int{-1, 0, 1, 100, math.MaxInt} {
		d := made(t, 8)
		is(t, "Arm", d.Arm(n), api.OK)
		is(t, "Fail", d.Fail(n), api.OK)
		if d.Ops() != 0 || d.Dead() {
			t.Errorf("%d, %v", d.Ops(), d.Dead())
		}
	}
	for _, n := range []int{-2, -3, math.MinInt} {
		d := made(t, 8)
		is(t, "Arm", d.Arm(n), api.ErrArg)
		is(t, "Fail", d.Fail(n), api.ErrArg)
		is(t, "not armed, not set", d.Append(0, nil), api.OK)
		must(t, d.Fail(0))
		is(t, "Fail", d.Fail(n), api.ErrArg)
		is(t, "still set", d.Append(0, nil), api.ErrIo)
		must(t, d.Arm(0))
		is(t, "Arm", d.Arm(n), api.ErrArg)
		is(t, "still armed", d.Append(0, nil), api.ErrDead)
	}
}

// P2.5: -1 takes both back; a later number stands in an earlier one's stead.
func TestArmFailAnew(t *testing.T) {
	d := made(t, 8)
	must(t, d.Arm(0))
	must(t, d.Fail(0))
	must(t, d.Arm(-1))
	is(t, "Fail stays set", d.Append(0, nil), api.ErrIo)
	must(t, d.Fail(0))
	must(t, d.Fail(-1))
	for range 5 {
		is(t, "neither", d.Append(0, nil), api.OK)
	}
	must(t, d.Fail(0))
	must(t, d.Fail(1))
	is(t, "one more is done", d.Append(0, nil), api.OK)
	is(t, "then it fails", d.Append(0, nil), api.ErrIo)
	must(t, d.Arm(5))
	must(t, d.Arm(1))
	is(t, "one more is done", d.Append(0, nil), api.OK)
	is(t, "then the power goes", d.Append(0, nil), api.ErrDead)
}

// P2.2, P2.5: just n more operations are done ahead of the power's going, whatever is refused between them.
func TestArmCountsOperations(t *testing.T) {
	for n := range 6 {
		d := busy(t)
		must(t, d.Arm(n))
		for range n {
			refused(d)
			is(t, "an operation ahead", d.Sync(3), api.OK)
		}
		refused(d)
		if d.Dead() {
			t.Fatalf("dead ahead of operation %d", n)
		}
		is(t, "the operation", d.Sync(3), api.ErrDead)
		if !d.Dead() || d.Ops() != 6+n+1 {
			t.Errorf("dead %v, %d operations", d.Dead(), d.Ops())
		}
		refused(d)
		is(t, "an operation behind", d.Sync(3), api.ErrDead)
		if d.Ops() != 6+n+1 {
			t.Errorf("a dead one counts: %d", d.Ops())
		}
	}
}

// P2.2, P2.5: just n more operations are done ahead of the one that fails; those behind it are done.
func TestFailCountsOperations(t *testing.T) {
	for n := range 6 {
		d := busy(t)
		must(t, d.Fail(n))
		for range n {
			refused(d)
			is(t, "an operation ahead", d.Sync(3), api.OK)
		}
		refused(d)
		is(t, "the operation", d.Sync(3), api.ErrIo)
		for range 2 * n {
			refused(d)
			is(t, "an operation behind", d.Sync(3), api.OK)
		}
		if d.Dead() || d.Ops() != 6+3*n+1 {
			t.Errorf("dead %v, %d operations", d.Dead(), d.Ops())
		}
	}
}

// P2.2 to P2.5: every kind of operation counts, fails and goes with the power.
func TestEachOperationMeets(t *testing.T) {
	for what, do := range operations() {
		d := busy(t)
		is(t, what, do(d), api.OK)
		if d.Ops() != 7 {
			t.Errorf("%s: %d operations", what, d.Ops())
		}

		d = busy(t)
		must(t, d.Fail(0))
		is(t, what+" that fails", do(d), api.ErrIo)
		if d.Ops() != 7 || d.Dead() {
			t.Errorf("%s that fails: %d operations, dead %v", what, d.Ops(), d.Dead())
		}
		untouched(t, what+" that fails", d)
		is(t, what+" behind a failing", do(d), api.OK)

		d = busy(t)
		must(t, d.Arm(0))
		is(t, what+" at which the power goes", do(d), api.ErrDead)
		if d.Ops() != 7 || !d.Dead() {
			t.Errorf("%s at which the power goes: %d operations, dead %v", what, d.Ops(), d.Dead())
		}
		if what != "Append" && what != "Append of none" {
			untouched(t, what+" at which the power goes", d)
		}
	}
}

// P2.5: what is refused neither fails nor lets the power go: an Append without room neither.
func TestRefusedMeetsNothing(t *testing.T) {
	d := busy(t)
	must(t, d.Arm(0))
	must(t, d.Fail(0))
	is(t, "Append without room", d.Append(0, counted(0, 100)), api.ErrFull)
	is(t, "Append to no name", d.Append(4, nil), api.ErrFile)
	is(t, "Sync of none", d.Sync(2), api.ErrNone)
	is(t, "Truncate above", d.Truncate(0, 21), api.ErrArg)
	if d.Dead() || d.Ops() != 6 {
		t.Errorf("dead %v, %d operations", d.Dead(), d.Ops())
	}
	untouched(t, "refused", d)
}

// P2.5: both at one operation: the power goes. One that fails counts as done for the power; the one at which it goes is none that fails.
func TestArmAndFailTogether(t *testing.T) {
	for arm := range 5 {
		for fail := range 5 {
			d := busy(t)
			must(t, d.Arm(arm))
			must(t, d.Fail(fail))
			for i := range 6 {
				want := api.OK
				switch {
				case i >= arm:
					want = api.ErrDead
				case i == fail:
					want = api.ErrIo
				}
				is(t, "an operation", d.Sync(3), want)
			}
			if !d.Dead() || d.Ops() != 6+arm+1 {
				t.Errorf("arm %d, fail %d: dead %v, %d operations", arm, fail, d.Dead(), d.Ops())
			}
		}
	}
}

// P2.5: the bytes of an Append at which the power goes are loose, its file is there, and it is not kept.
func TestAppendAtWhichThePowerGoes(t *testing.T) {
	d := busy(t)
	must(t, d.Arm(0))
	is(t, "Append", d.Append(0, counted(20, 5)), api.ErrDead)
	names(t, "Pending", d.Pending(), 0, 0, 1, 1)
	if d.Size(0) != 25 {
		t.Errorf("size %d", d.Size(0))
	}
	c := d.Copy()
	must(t, c.Crash([]bool{true, true}))
	holds(t, "kept", c, 0, counted(0, 25))
	must(t, d.Crash([]bool{true}))
	holds(t, "kept in part", d, 0, counted(0, 18))

	for _, b := range [][]byte{nil, {}, counted(0, 9)} {
		d := busy(t)
		must(t, d.Arm(0))
		is(t, "Append to a new one", d.Append(2, b), api.ErrDead)
		names(t, "Files", d.Files(), 0, 1, 2, 3)
		must(t, d.Crash(nil))
		names(t, "Files behind a Crash", d.Files(), 0, 3)
	}
}

// P2.5: behind a Crash the disk is not dead, not armed, not set to fail, and still counts on.
func TestCrashMakesQuiet(t *testing.T) {
	for what, ahead := range map[string]func(d *Disk){
		"not armed": func(d *Disk) {},
		"armed":     func(d *Disk) { d.Arm(0) },
		"to fail":   func(d *Disk) { d.Fail(0) },
		"both":      func(d *Disk) { d.Arm(2); d.Fail(1) },
		"dead":      func(d *Disk) { d.Fail(0); d.Arm(0); d.Append(1, nil) },
	} {
		d := busy(t)
		ahead(d)
		ops := d.Ops()
		is(t, what, d.Crash(nil), api.OK)
		if d.Dead() || d.Ops() != ops || d.Room() != 100 || len(d.Pending()) != 0 {
			t.Errorf("%s: dead %v, %d operations, %v", what, d.Dead(), d.Ops(), d.Pending())
		}
		for range 4 {
			is(t, what+", behind a Crash", d.Sync(3), api.OK)
		}
		if d.Ops() != ops+4 {
			t.Errorf("%s: %d operations, not %d", what, d.Ops(), ops+4)
		}
		is(t, what+", armed anew", d.Arm(0), api.OK)
		is(t, what+", set to fail anew", d.Fail(0), api.OK)
	}
}

// P2.5: every keep up to one part more than there are pieces, of three pieces, the last one shorter.
func TestCrashKeeps(t *testing.T) {
	for n := range 5 {
		for bits := range 1 << n {
			keep := make([]bool, n)
			for i := range keep {
				keep[i] = bits>>i&1 == 1
			}
			d := made(t, 40)
			must(t, d.Append(0, counted(0, 10)))
			must(t, d.Sync(0))
			must(t, d.Append(0, counted(10, 20)))
			is(t, "Crash", d.Crash(keep), api.OK)
			first := slices.Index(append(slices.Clone(keep), false), false)
			want := []int{10, 18, 26, 30, 30}[first]
			holds(t, "kept", d, 0, counted(0, want))
			names(t, "Pending", d.Pending())
			must(t, d.Crash(nil))
			holds(t, "synced by the Crash", d, 0, counted(0, want))
		}
	}
}

// P2.5: a piece that is not kept takes those behind it of its own file with it, no other file's.
func TestCrashFileByFile(t *testing.T) {
	load := func() *Disk {
		d := made(t, 100)
		must(t, d.Append(3, counted(0, 16)))
		must(t, d.Append(0, counted(50, 20)))
		must(t, d.Append(2, counted(100, 3)))
		names(t, "Pending", d.Pending(), 0, 0, 0, 2, 3, 3)
		return d
	}
	d := load()
	must(t, d.Crash([]bool{true, false, true, false, true, true}))
	names(t, "Files", d.Files(), 0, 3)
	holds(t, "the first", d, 0, counted(50, 8))
	holds(t, "the last", d, 3, counted(0, 16))

	d = load()
	must(t, d.Crash([]bool{false, true, true, true, true}))
	names(t, "Files", d.Files(), 2, 3)
	holds(t, "a short piece", d, 2, counted(100, 3))
	holds(t, "the last", d, 3, counted(0, 8))
}

// P2.5: a file that was not kept goes only if no byte of it is left; what stays is kept from then on.
func TestCrashOfWhatWasNotKept(t *testing.T) {
	d := made(t, 40)
	must(t, d.Append(0, counted(0, 9)))
	must(t, d.Append(1, counted(0, 9)))
	must(t, d.Append(2, nil))
	must(t, d.Append(3, nil))
	must(t, d.Sync(3))
	must(t, d.Crash([]bool{true}))
	names(t, "Files", d.Files(), 0, 3)
	must(t, d.Truncate(0, 0))
	must(t, d.Crash(nil))
	names(t, "Files, kept by the Crash", d.Files(), 0, 3)
}

// P2.5, R3: what is to be kept is not changed.
func TestCrashLeavesKeep(t *testing.T) {
	d := busy(t)
	keep := []bool{true, false, true, true, true, true}
	must(t, d.Crash(keep[:4]))
	if !slices.Equal(keep, []bool{true, false, true, true, true, true}) {
		t.Errorf("%v", keep)
	}
}

// The chapter's examples.
func TestExamples(t *testing.T) {
	d := made(t, 40)
	is(t, "Append", d.Append(0, counted(0, 10)), api.OK)
	is(t, "Sync", d.Sync(0), api.OK)
	is(t, "Append", d.Append(0, counted(10, 20)), api.OK)
	names(t, "Pending", d.Pending(), 0, 0, 0)
	is(t, "Append", d.Append(1, counted(0, 11)), api.ErrFull)

	is(t, "Crash", d.Crash([]bool{true, false, true}), api.OK)
	holds(t, "behind the Crash", d, 0, counted(0, 18))
	names(t, "Pending", d.Pending())
	names(t, "Files", d.Files(), 0)

	is(t, "Append", d.Append(1, counted(0, 5)), api.OK)
	is(t, "Crash", d.Crash(nil), api.OK)
	names(t, "Files", d.Files(), 0)
	is(t, "Rename", d.Rename(0, 2), api.OK)
	holds(t, "renamed", d, 2, counted(0, 18))

	is(t, "Arm", d.Arm(0), api.OK)
	is(t, "Append", d.Append(2, counted(18, 9)), api.ErrDead)
	is(t, "Sync", d.Sync(2), api.ErrDead)
	is(t, "Crash", d.Crash([]bool{true}), api.OK)
	holds(t, "the piece that was kept", d, 2, counted(0, 26))
}
