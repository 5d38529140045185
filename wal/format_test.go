package wal

import (
	"bytes"
	"encoding/hex"
	"math"
	"testing"

	"quiver/api"
	"quiver/disk"
)

// noLimits are numbers that are no limit of a log.
func noLimits() []int {
	return []int{63, 16001, 62, 16002, 1, 0, -1, -64, -100, math.MinInt, math.MaxInt, math.MaxInt - 19, math.MaxInt32, 1<<32 + 100}
}

// refusedFormat holds a Format against the error by which it ends, with nothing done.
func refusedFormat(t *testing.T, d *disk.Disk, most int, want api.Errno) {
	t.Helper()
	before := d.Copy()
	w, err := Format(d, most)
	if w != nil || err != want {
		t.Errorf("Format of %d, room for %d: %v, %d, not %d", most, d.Room(), w, err, want)
	}
	alike(t, "a refused Format", d, before)
}

// P4.1: logs of the least and the greatest limit and some between, on disks that just have the room: what is told, and what the file has.
func TestFormat(t *testing.T) {
	for _, most := range []int{64, 65, 100, 255, 256, 15999, 16000} {
		for _, more := range []int{0, 1, 100} {
			d := diskOf(t, roomOf(most)+more, nil)
			w, err := Format(d, most)
			is(t, "Format", err, api.OK)
			whole(t, "formatted", w, d, most, nil)
			if len(d.Pending()) != 0 || d.Ops() != 3 {
				t.Errorf("limit %d: Pending %v, Ops %d", most, d.Pending(), d.Ops())
			}
		}
	}
}

// P4.1: the file of a log with the limit 100, written out, and that of a record behind it.
func TestFormatWrittenOut(t *testing.T) {
	w, d := formatted(t, 100)
	want := "71756976726c6f67" + "00000064" + "c9a99bfbb62eec80" + "00000000" + "a8c7f832281a39c5"
	if b, _ := d.Read(0); hex.EncodeToString(b) != want {
		t.Errorf("%x", b)
	}
	is(t, "Append", w.Append([]byte{7, 8}), api.OK)
	want += "00000002" + "6133b6cc1c178cc5" + "0708"
	if b, _ := d.Read(0); hex.EncodeToString(b) != want {
		t.Errorf("%x", b)
	}
}

// P4.1: what is no limit, on whatever disk, of one that is dead or set to fail too.
func TestFormatNoLimit(t *testing.T) {
	for _, most := range noLimits() {
		for _, room := range []int{1, 168, 32040, api.MaxRoom} {
			d := diskOf(t, room, nil)
			refusedFormat(t, d, most, api.ErrArg)
			d.Fail(0)
			refusedFormat(t, d, most, api.ErrArg)
			d.Arm(0)
			d.Append(2, nil)
			refusedFormat(t, d, most, api.ErrArg)
		}
	}
}

// P4.1: a disk with room for one byte less than the limit needs, and for far less; what the disk has in it does not count.
func TestFormatRoom(t *testing.T) {
	for _, most := range []int{64, 65, 100, 1000, 15999, 16000} {
		for _, room := range []int{1, most, most + 20, 2 * most, 2*most + 20, roomOf(most) - 1} {
			refusedFormat(t, diskOf(t, room, nil), most, api.ErrArg)
		}
		d := diskOf(t, roomOf(most), map[int][]byte{2: make([]byte, roomOf(most)-32)})
		w, err := Format(d, most)
		is(t, "Format with just room for the new file", err, api.OK)
		whole(t, "formatted", w, d, most, nil)
	}
}

// beforehand are disks on which a log with the limit 100 is to be laid.
func beforehand(t *testing.T) map[string]*disk.Disk {
	loose := diskOf(t, 300, nil)
	loose.Append(1, counted(1, 20))
	loose.Append(0, counted(1, 3))
	return map[string]*disk.Disk{
		"none":                        diskOf(t, 300, nil),
		"NewFile":                     diskOf(t, 300, map[int][]byte{1: counted(1, 30)}),
		"NewFile of no bytes":         diskOf(t, 300, map[int][]byte{1: nil}),
		"NewFile with another log":    diskOf(t, 300, map[int][]byte{1: fileOf(90, counted(1, 4), nil)}),
		"LogFile of no bytes":         diskOf(t, 300, map[int][]byte{0: nil}),
		"LogFile with another log":    diskOf(t, 300, map[int][]byte{0: fileOf(90, counted(1, 4), nil)}),
		"both, and others":            diskOf(t, 300, map[int][]byte{0: counted(3, 60), 1: counted(1, 30), 2: counted(9, 9), 3: nil}),
		"both loose":                  loose,
		"no room for the head":        diskOf(t, 300, map[int][]byte{0: counted(1, 269)}),
		"no room for the head alone":  diskOf(t, 300, map[int][]byte{2: counted(1, 281)}),
		"just room":                   diskOf(t, 300, map[int][]byte{2: counted(1, 268)}),
		"just room without NewFile":   diskOf(t, 300, map[int][]byte{1: counted(1, 32), 3: counted(1, 268)}),
		"no room, NewFile is removed": diskOf(t, 300, map[int][]byte{1: counted(1, 31), 3: counted(1, 269)}),
	}
}

// P4.1: on disks that have files already, each one operation behind the other as by hand, whatever comes to it: that it fails, that the power goes, that the disk is full.
func TestFormatByHand(t *testing.T) {
	for what, d := range beforehand(t) {
		steps := renewal(fileOf(100, nil))
		for _, name := range d.Files() {
			if name == 1 {
				steps = append([]step{removes(1)}, steps...)
			}
		}
		for trouble, meet := range troubles(len(steps)) {
			what := what + ", " + trouble
			got, want := d.Copy(), d.Copy()
			meet(got)
			meet(want)
			err := byHand(want, steps)
			w, e := Format(got, 100)
			is(t, what, e, err)
			alike(t, what, got, want)
			if err != api.OK {
				if w != nil {
					t.Errorf("%s: a log beside an error", what)
				}
				continue
			}
			whole(t, what, w, got, 100, nil)
		}
	}
}

// P4.1: each error that a step of it has is among those of the test above.
func TestFormatErrors(t *testing.T) {
	for _, c := range []struct {
		what    string
		trouble string
		want    api.Errno
	}{
		{"none", "no trouble", api.OK},
		{"none", "it fails at 0", api.ErrIo}, {"none", "it fails at 1", api.ErrIo}, {"none", "it fails at 2", api.ErrIo}, {"none", "it fails at 3", api.OK},
		{"NewFile", "it fails at 3", api.ErrIo}, {"NewFile", "it fails at 4", api.OK},
		{"none", "the power goes at 0", api.ErrDead}, {"none", "the power goes at 1", api.ErrDead}, {"none", "the power goes at 2", api.ErrDead}, {"none", "the power goes at 3", api.OK},
		{"NewFile", "the power goes at 3", api.ErrDead}, {"NewFile", "both at 0", api.ErrDead},
		{"no room for the head", "no trouble", api.ErrFull}, {"no room for the head alone", "no trouble", api.ErrFull},
		{"just room", "no trouble", api.OK}, {"just room without NewFile", "no trouble", api.OK},
		{"no room, NewFile is removed", "no trouble", api.ErrFull}, {"no room, NewFile is removed", "it fails at 0", api.ErrIo},
	} {
		d := beforehand(t)[c.what]
		troubles(4)[c.trouble](d)
		_, err := Format(d, 100)
		is(t, c.what+", "+c.trouble, err, c.want)
	}
}

// P4.1: a dead disk, with a new file and without one.
func TestFormatDead(t *testing.T) {
	for _, files := range []map[int][]byte{nil, {0: fileOf(100, nil)}, {1: counted(1, 5)}} {
		d := diskOf(t, 240, files)
		d.Arm(0)
		d.Append(2, nil)
		refusedFormat(t, d, 100, api.ErrDead)
	}
}

// P4.1: laid anew, with another limit, nothing is left of the log that was there.
func TestFormatAgain(t *testing.T) {
	_, d := filled(t)
	w, err := Format(d, 64)
	is(t, "Format", err, api.OK)
	whole(t, "laid anew", w, d, 64, nil)
	whole(t, "opened", opened(t, "laid anew", d), d, 64, nil)
	if b, _ := d.Read(0); !bytes.Equal(b, fileOf(64, nil)) {
		t.Errorf("%v", b)
	}
}
