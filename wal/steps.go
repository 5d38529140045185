package wal

import (
	"slices"

	"quiver/api"
	"quiver/disk"
)

// inOrder does one step behind the other, up to the first one that has an error, and answers that.
func inOrder(steps ...func() api.Errno) api.Errno {
	err := api.OK
doing:
	for _, step := range steps {
		switch err = step(); err {
		case api.OK:
		default:
			break doing
		}
	}
	return err
}

// renewing are the steps by which a file with that snapshot alone takes the log's name. Up to the last one the log that was there is untouched.
func renewing(d *disk.Disk, most int, snapshot []byte) []func() api.Errno {
	return []func() api.Errno{
		func() api.Errno { return dropNew(d) },
		func() api.Errno { return d.Append(api.NewFile, append(head(most), frame(0, snapshot)...)) },
		func() api.Errno { return d.Sync(api.NewFile) },
		func() api.Errno { return d.Rename(api.NewFile, api.LogFile) },
	}
}

// dropNew takes away what is left of a new file that was not done.
func dropNew(d *disk.Disk) api.Errno {
	if !slices.Contains(d.Files(), api.NewFile) {
		return api.OK
	}
	return d.Remove(api.NewFile)
}

// load answers what the log's file says.
func load(d *disk.Disk) (said, api.Errno) {
	b, err := d.Read(api.LogFile)
	switch err {
	case api.OK:
		return hear(b)
	case api.ErrNone:
		return said{}, api.ErrWal
	}
	return said{}, err
}

// cutAt takes away what stands in the log's file behind its end.
func cutAt(d *disk.Disk, end int) api.Errno {
	if d.Size(api.LogFile) <= end {
		return api.OK
	}
	return d.Truncate(api.LogFile, end)
}
