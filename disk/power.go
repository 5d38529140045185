package disk

import (
	"iter"

	"quiver/api"
)

// countdown is how many more operations are done ahead of the one at which something happens.
type countdown int

// off is the countdown of what does not happen.
const off countdown = -1

func (c countdown) due() bool {
	return c == 0
}

// step counts one operation; behind the one that was due it is off.
func (c *countdown) step() {
	if *c != off {
		*c--
	}
}

// set sets the countdown, if n is one.
func (c *countdown) set(n int) api.Errno {
	if n < int(off) {
		return api.ErrArg
	}
	*c = countdown(n)
	return api.OK
}

// Arm lets the power go behind n more operations; -1: not any more.
func (d *Disk) Arm(n int) api.Errno {
	if err := d.awake(); err != api.OK {
		return err
	}
	return d.armed.set(n)
}

// Fail lets one operation fail behind n more; -1: not any more.
func (d *Disk) Fail(n int) api.Errno {
	if err := d.awake(); err != api.OK {
		return err
	}
	return d.failing.set(n)
}

// Crash lets the power come back: of the pieces those are left that keep says, up to the first one of a file that it does not.
func (d *Disk) Crash(keep []bool) api.Errno {
	if d == nil {
		return api.ErrNil
	}
	left := d.survive(keep)
	for _, name := range d.Files() {
		if left[name] == 0 && !d.files[name].kept {
			delete(d.files, name)
			continue
		}
		d.change(name, func(f *file) {
			f.bytes = f.bytes[:left[name]]
			settle(f)
		})
	}
	d.dead, d.armed, d.failing = false, off, off
	return api.OK
}

// pieces tells of each piece its file's name and how many bytes it has, file by file.
func (d *Disk) pieces() iter.Seq2[int, int] {
	return func(yield func(name, size int) bool) {
		for _, name := range d.Files() {
			f := d.files[name]
			for at := f.synced; at < len(f.bytes); at += api.Piece {
				if !yield(name, min(api.Piece, len(f.bytes)-at)) {
					return
				}
			}
		}
	}
}

// survive tells by name how many bytes each file has left when the power comes back.
func (d *Disk) survive(keep []bool) [api.MaxFiles]int {
	var left [api.MaxFiles]int
	for name := range left {
		left[name] = d.files[name].synced
	}
	var torn [api.MaxFiles]bool
	i := 0
	for name, size := range d.pieces() {
		// One lost piece takes those behind it with it, else the file would be no beginning of what it was.
		torn[name] = torn[name] || i >= len(keep) || !keep[i]
		if !torn[name] {
			left[name] += size
		}
		i++
	}
	return left
}
