package disk

import (
	"slices"

	"quiver/api"
)

// awake tells what refuses every call but Crash.
func (d *Disk) awake() api.Errno {
	switch {
	case d == nil:
		return api.ErrNil
	case d.dead:
		return api.ErrDead
	}
	return api.OK
}

// named tells what refuses an operation that needs names, but no file that is there.
func (d *Disk) named(names ...int) api.Errno {
	if err := d.awake(); err != api.OK {
		return err
	}
	for _, name := range names {
		if name < 0 || name >= api.MaxFiles {
			return api.ErrFile
		}
	}
	return api.OK
}

// ready tells what refuses an operation whose file has to be there; the other names need just be names.
func (d *Disk) ready(file int, others ...int) api.Errno {
	if err := d.named(append(others, file)...); err != api.OK {
		return err
	}
	if !d.has(file) {
		return api.ErrNone
	}
	return api.OK
}

// meet counts an operation that is not refused, and tells what it meets: the power goes, it fails, or neither.
func (d *Disk) meet() api.Errno {
	d.ops++
	err := api.OK
	switch {
	case d.armed.due():
		// Ahead of the failing: if both are due, the power goes.
		d.dead = true
		err = api.ErrDead
	case d.failing.due():
		err = api.ErrIo
		// What fails counts as done; the step down also takes the failing away.
		fallthrough
	default:
		d.armed.step()
		d.failing.step()
	}
	return err
}

// operate does an operation, unless it meets something.
func (d *Disk) operate(do func()) api.Errno {
	err := d.meet()
	if err == api.OK {
		do()
	}
	return err
}

// Append lays bytes, loose, behind those of the file.
func (d *Disk) Append(file int, b []byte) api.Errno {
	if err := d.named(file); err != api.OK {
		return err
	}
	if len(b) > d.room-d.used() {
		return api.ErrFull
	}
	err := d.meet()
	if err != api.ErrIo {
		// When the power goes the bytes are on their way already: they are loose all the same.
		d.change(file, layBehind(b))
	}
	return err
}

func layBehind(b []byte) func(f *file) {
	return func(f *file) { f.bytes = append(f.bytes, b...) }
}

// Sync makes all bytes of the file synced, and the file kept.
func (d *Disk) Sync(file int) api.Errno {
	if err := d.ready(file); err != api.OK {
		return err
	}
	return d.operate(func() { d.change(file, settle) })
}

func settle(f *file) {
	f.synced = len(f.bytes)
	f.kept = true
}

// Read answers all bytes of the file.
func (d *Disk) Read(file int) ([]byte, api.Errno) {
	if err := d.ready(file); err != api.OK {
		return nil, err
	}
	var out []byte
	err := d.operate(func() { out = slices.Clone(d.files[file].bytes) })
	return out, err
}

// Truncate leaves the first n bytes of the file.
func (d *Disk) Truncate(file, n int) api.Errno {
	if err := d.ready(file); err != api.OK {
		return err
	}
	if n < 0 || n > d.Size(file) {
		return api.ErrArg
	}
	return d.operate(func() { d.change(file, cutAt(n)) })
}

func cutAt(n int) func(f *file) {
	return func(f *file) {
		f.bytes = f.bytes[:n]
		f.synced = min(f.synced, n)
	}
}

// Rename gives what the file from has to the name to.
func (d *Disk) Rename(from, to int) api.Errno {
	if err := d.ready(from, to); err != api.OK {
		return err
	}
	return d.operate(func() {
		if from == to {
			return
		}
		moved := d.files[from]
		delete(d.files, from)
		d.change(to, func(f *file) {
			*f = moved
			f.kept = true
		})
	})
}

// Remove takes the file away.
func (d *Disk) Remove(file int) api.Errno {
	if err := d.ready(file); err != api.OK {
		return err
	}
	return d.operate(func() { delete(d.files, file) })
}
