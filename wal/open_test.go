package wal

import (
	"bytes"
	"encoding/binary"
	"math"
	"slices"
	"strconv"
	"testing"

	"quiver/api"
	"quiver/disk"
)

// noLog holds Open against a LogFile of those bytes that says no log: it is read, and nothing else is done.
func noLog(t *testing.T, what string, b []byte) {
	t.Helper()
	d := diskOf(t, api.MaxRoom, map[int][]byte{0: b, 1: fileOf(100, nil), 2: {1}})
	before := d.Copy()
	before.Read(0)
	w, err := Open(d)
	if w != nil || err != api.ErrWal {
		t.Errorf("%s: %v, %d", what, w, err)
	}
	alike(t, what, d, before)
}

// says holds Open against a LogFile of those bytes that says a log, and holds the file cut at its end.
func says(t *testing.T, what string, b []byte, most int, parts ...[]byte) {
	t.Helper()
	d := diskOf(t, api.MaxRoom, map[int][]byte{0: b})
	before := d.Ops()
	w := opened(t, what, d)
	whole(t, what, w, d, most, parts...)
	ops := 1
	if len(fileOf(most, parts...)) < len(b) {
		ops = 2
	}
	if d.Ops()-before != ops {
		t.Errorf("%s: %d operations, not %d", what, d.Ops()-before, ops)
	}
	whole(t, what+", again", opened(t, what, d), d, most, parts...)
	if d.Ops()-before != ops+1 {
		t.Errorf("%s, again: it is not just read", what)
	}
}

// P4.2: LogFile is not there, whatever else is.
func TestOpenNotThere(t *testing.T) {
	log := fileOf(100, nil)
	for _, files := range []map[int][]byte{nil, {1: log}, {2: log, 3: log}, {1: log, 2: log, 3: log}} {
		d := diskOf(t, 240, files)
		before := d.Copy()
		w, err := Open(d)
		if w != nil || err != api.ErrWal {
			t.Errorf("%v: %v, %d", files, w, err)
		}
		alike(t, "without LogFile", d, before)
	}
}

// P4.2: LogFile of no bytes, of a beginning of a log that ends ahead of part 0's end, and of other bytes.
func TestOpenTooShort(t *testing.T) {
	b := fileOf(100, counted(1, 9), nil)
	for n := range 20 + 12 + 9 {
		noLog(t, "the first "+strconv.Itoa(n), b[:n])
	}
	for _, n := range []int{1, 19, 20, 32, 41, 100} {
		noLog(t, "zeros", make([]byte, n))
		noLog(t, "counted", counted(1, n))
		noLog(t, "one byte ahead", append(make([]byte, n), b...))
	}
	noLog(t, "without the head", b[20:])
	noLog(t, "without the first byte", b[1:])
}

// P4.2: a head of which one bit is another one, wherever it is.
func TestOpenAnotherHead(t *testing.T) {
	b := fileOf(100, counted(1, 9), nil)
	for bit := range 20 * 8 {
		c := bytes.Clone(b)
		c[bit/8] ^= 1 << (bit % 8)
		noLog(t, "bit "+strconv.Itoa(bit)+" turned", c)
	}
}

// P4.2: a head with right marks, but other letters.
func TestOpenOtherLetters(t *testing.T) {
	for _, letters := range []string{"quivrlof", "Quivrlog", "quiverlog", "quivrlo", "QUIVRLOG", "golrviuq"} {
		h := binary.BigEndian.AppendUint32([]byte(letters), 100)
		h = binary.BigEndian.AppendUint64(h, sum(h))
		noLog(t, letters, append(h, frameOf(0, nil)...))
	}
	h := binary.LittleEndian.AppendUint32([]byte("quivrlog"), 100)
	noLog(t, "the limit's lowest byte first", append(binary.BigEndian.AppendUint64(h, sum(h)), frameOf(0, nil)...))
	h = binary.BigEndian.AppendUint32([]byte("quivrlog"), 100)
	noLog(t, "the mark's lowest byte first", append(binary.LittleEndian.AppendUint64(h, sum(h)), frameOf(0, nil)...))
	noLog(t, "the mark of the letters alone", append(binary.BigEndian.AppendUint64(h, sum([]byte("quivrlog"))), frameOf(0, nil)...))
}

// P4.2: a right mark, but a limit that is none; the least and the greatest one that are.
func TestOpenLimits(t *testing.T) {
	for _, most := range []uint32{0, 1, 63, 16001, 16002, 1 << 16, math.MaxInt32, 1 << 31, math.MaxUint32, 100 << 24, 64<<8 + 1<<31} {
		noLog(t, "limit "+strconv.Itoa(int(most)), append(headOf(most), frameOf(0, nil)...))
	}
	for _, most := range []int{64, 65, 15999, 16000} {
		says(t, "limit "+strconv.Itoa(most), fileOf(most, nil), most, nil)
	}
}

// P4.2: behind the head no frame of a part 0.
func TestOpenNoSnapshot(t *testing.T) {
	noLog(t, "a head alone", headOf(100))
	noLog(t, "a part 1", append(headOf(100), frameOf(1, nil)...))
	noLog(t, "parts 1 and 0", slices.Concat(headOf(100), frameOf(1, nil), frameOf(0, nil)))
	noLog(t, "a byte, and a part 0", slices.Concat(headOf(100), []byte{0}, frameOf(0, nil)))
	noLog(t, "two heads", slices.Concat(headOf(100), headOf(100), frameOf(0, nil)))
	for bit := range (12 + 9) * 8 {
		f := frameOf(0, counted(1, 9))
		f[bit/8] ^= 1 << (bit % 8)
		noLog(t, "bit "+strconv.Itoa(bit)+" turned", slices.Concat(headOf(100), f, frameOf(1, nil)))
	}
}

// P4.2: a part 0 that just costs the limit, one that costs one more, and those of MaxTx bytes and more, all of them with right marks.
func TestOpenSnapshotTooLong(t *testing.T) {
	for _, most := range []int{64, 100, 16000} {
		b := counted(1, most-12)
		says(t, "just the limit", fileOf(most, b), most, b)
		says(t, "one less", fileOf(most, b[1:]), most, b[1:])
		noLog(t, "one more", fileOf(most, counted(1, most-11)))
		noLog(t, "one more, and a record", fileOf(most, counted(1, most-11), nil))
		noLog(t, "as many as the limit", fileOf(most, counted(1, most)))
	}
	for _, n := range []int{16000, 16001, 40000} {
		noLog(t, strconv.Itoa(n)+" bytes", fileOf(16000, counted(1, n)))
	}
}

// P4.2: records of all kinds, behind snapshots of all kinds.
func TestOpenWhole(t *testing.T) {
	for _, snapshot := range [][]byte{nil, {0}, counted(250, 17), make([]byte, 100)} {
		says(t, "no records", fileOf(300, snapshot), 300, snapshot)
		says(t, "one of no bytes", fileOf(300, snapshot, nil), 300, snapshot, nil)
		says(t, "three", fileOf(300, snapshot, counted(3, 4), nil, make([]byte, 9)), 300, snapshot, counted(3, 4), nil, make([]byte, 9))
		says(t, "a head in a record", fileOf(300, snapshot, fileOf(64, nil)), 300, snapshot, fileOf(64, nil))
	}
	many := slices.Repeat([][]byte{nil}, 16000/12)
	says(t, "as many as can be", fileOf(16000, many...), 16000, many...)
	says(t, "one more", fileOf(16000, append(many, nil)...), 16000, many...)
}

// P4.2: records that are cut at each place.
func TestOpenCutRecords(t *testing.T) {
	b := fileOf(200, parts()...)
	ends := []int{37, 52, 64, 85}
	if len(b) != 85 {
		t.Fatalf("%d bytes", len(b))
	}
	for n := 37; n <= len(b); n++ {
		k := 1
		for k < 4 && ends[k] <= n {
			k++
		}
		says(t, "the first "+strconv.Itoa(n), b[:n], 200, parts()[:k]...)
	}
}

// P4.2: a record's frame of which one bit is another one, wherever it is: nothing of it counts, and nothing behind it.
func TestOpenWrongRecord(t *testing.T) {
	for bit := range (12 + 3) * 8 {
		b := fileOf(200, parts()...)
		b[37+bit/8] ^= 1 << (bit % 8)
		says(t, "bit "+strconv.Itoa(bit)+" of record 1", b, 200, parts()[:1]...)
	}
	for bit := range 12 * 8 {
		b := fileOf(200, parts()...)
		b[52+bit/8] ^= 1 << (bit % 8)
		says(t, "bit "+strconv.Itoa(bit)+" of record 2", b, 200, parts()[:2]...)
	}
}

// P4.2: frames with right marks, but of another number: twice, left out, in another order, of another log.
func TestOpenOtherNumbers(t *testing.T) {
	begin := fileOf(200, nil, counted(1, 3))
	first := [][]byte{nil, counted(1, 3)}
	for _, number := range []int{0, 1, 3, 4, -1, 258, 2 << 8, 2 << 32, 2<<56 + 2} {
		b := slices.Concat(begin, frameOf(number, counted(5, 4)), frameOf(2, nil), frameOf(3, nil))
		says(t, "number "+strconv.Itoa(number), b, 200, first...)
	}
	says(t, "number 2", append(bytes.Clone(begin), frameOf(2, counted(5, 4))...), 200, nil, counted(1, 3), counted(5, 4))
	says(t, "a part 0 twice", append(fileOf(200, nil), frameOf(0, nil)...), 200, nil)
	says(t, "3 and 2", slices.Concat(begin, frameOf(3, nil), frameOf(2, nil)), 200, first...)
	says(t, "a whole log behind", append(bytes.Clone(begin), fileOf(200, nil, nil)...), 200, first...)
}

// P4.2: frames that together cost more than the limit: the ones that do not, and nothing behind them, whatever it costs.
func TestOpenTooCostly(t *testing.T) {
	for _, c := range []struct{ most, snapshot, record int }{{64, 0, 40}, {100, 10, 66}, {16000, 8000, 7976}, {16000, 0, 15976}} {
		snapshot, record := counted(1, c.snapshot), counted(7, c.record)
		begin := fileOf(c.most, snapshot, record)
		if len(begin) != c.most+20 {
			t.Fatalf("%d bytes", len(begin))
		}
		says(t, "just the limit", begin, c.most, snapshot, record)
		says(t, "and one of no bytes", append(begin, frameOf(2, nil)...), c.most, snapshot, record)
		for _, more := range []int{1, 2, 11, 12, 13} {
			long := fileOf(c.most, snapshot, counted(7, c.record+more))
			says(t, "more", long, c.most, snapshot)
			says(t, "more, and one that would not", append(long, frameOf(1, nil)...), c.most, snapshot)
			says(t, "more, and the next", append(long, frameOf(2, nil)...), c.most, snapshot)
		}
	}
	says(t, "of more than MaxTx bytes", append(fileOf(16000, nil), frameOf(1, counted(1, 16001))...), 16000, nil)
	says(t, "of MaxTx bytes", append(fileOf(16000, nil), frameOf(1, counted(1, 16000))...), 16000, nil)
}

// P4.2: whatever stands behind the end is cut off.
func TestOpenBehindTheEnd(t *testing.T) {
	for _, ps := range [][][]byte{{nil}, parts()} {
		b := fileOf(200, ps...)
		for _, behind := range [][]byte{
			{0}, {255}, counted(1, 12), counted(1, 300), make([]byte, 4), make([]byte, 12), make([]byte, 1000),
			{0, 0, 0, 5}, {255, 255, 255, 255, 1, 2, 3, 4, 5, 6, 7, 8}, {128, 0, 0, 0, 1, 2, 3, 4, 5, 6, 7, 8, 9},
			frameOf(len(ps), nil)[:11], frameOf(len(ps), counted(1, 8))[:19], b,
		} {
			says(t, "bytes behind", slices.Concat(b, behind), 200, ps...)
		}
	}
}

// P4.2: a disk that has less room than Format asks for, and no room any more.
func TestOpenOfLittleRoom(t *testing.T) {
	b := fileOf(200, parts()...)
	for _, more := range []int{0, 1} {
		d := diskOf(t, len(b)+more, map[int][]byte{0: append(bytes.Clone(b), make([]byte, more)...)})
		whole(t, "little room", opened(t, "little room", d), d, 200, parts()...)
	}
}

// leftovers are disks with a log, and the steps by which Open takes away what else is there.
func leftovers(t *testing.T) map[string]struct {
	d     *disk.Disk
	steps []step
} {
	log := fileOf(200, parts()...)
	long := append(bytes.Clone(log), 1, 2, 3)
	loose := diskOf(t, 440, map[int][]byte{0: log[:60], 2: {1}})
	loose.Append(0, long[60:])
	loose.Append(2, counted(1, 20))
	loose.Append(1, counted(1, 20))
	return map[string]struct {
		d     *disk.Disk
		steps []step
	}{
		"just the log":        {diskOf(t, 440, map[int][]byte{0: log}), []step{reads(0)}},
		"bytes behind":        {diskOf(t, 440, map[int][]byte{0: long}), []step{reads(0), truncates(0, 85)}},
		"NewFile":             {diskOf(t, 440, map[int][]byte{0: log, 1: {1}}), []step{reads(0), removes(1)}},
		"NewFile of no bytes": {diskOf(t, 440, map[int][]byte{0: log, 1: nil}), []step{reads(0), removes(1)}},
		"NewFile of a log":    {diskOf(t, 440, map[int][]byte{0: log, 1: fileOf(200, nil)}), []step{reads(0), removes(1)}},
		"both, and others":    {diskOf(t, 440, map[int][]byte{0: long, 1: log, 2: log, 3: nil}), []step{reads(0), truncates(0, 85), removes(1)}},
		"all loose":           {loose, []step{reads(0), truncates(0, 85), removes(1)}},
	}
}

// P4.2, P4.6: each one operation behind the other as by hand, whatever comes to it; and behind a loss of power there the same log.
func TestOpenByHand(t *testing.T) {
	for what, c := range leftovers(t) {
		for trouble, meet := range troubles(len(c.steps)) {
			what := what + ", " + trouble
			got, want := c.d.Copy(), c.d.Copy()
			meet(got)
			meet(want)
			err := byHand(want, c.steps)
			w, e := Open(got)
			is(t, what, e, err)
			alike(t, what, got, want)
			if err == api.OK {
				whole(t, what, w, got, 200, parts()...)
			} else if w != nil {
				t.Errorf("%s: a log beside an error", what)
			}
			got.Crash(slices.Repeat([]bool{true}, 20))
			whole(t, what+", behind it", opened(t, what, got), got, 200, parts()...)
		}
	}
}

// P4.2: the errors of the disk, written out; ErrNone alone becomes another one.
func TestOpenErrors(t *testing.T) {
	for _, c := range []struct {
		what, trouble string
		want          api.Errno
	}{
		{"just the log", "it fails at 0", api.ErrIo}, {"just the log", "it fails at 1", api.OK},
		{"just the log", "the power goes at 0", api.ErrDead}, {"just the log", "the power goes at 1", api.OK},
		{"bytes behind", "it fails at 1", api.ErrIo}, {"bytes behind", "the power goes at 1", api.ErrDead},
		{"both, and others", "it fails at 2", api.ErrIo}, {"both, and others", "the power goes at 2", api.ErrDead},
		{"both, and others", "it fails at 3", api.OK}, {"both, and others", "both at 2", api.ErrDead},
	} {
		d := leftovers(t)[c.what].d
		troubles(3)[c.trouble](d)
		_, err := Open(d)
		is(t, c.what+", "+c.trouble, err, c.want)
	}
	d := diskOf(t, 440, map[int][]byte{0: counted(1, 50)})
	d.Fail(0)
	_, err := Open(d)
	is(t, "a file that says none, failing", err, api.ErrIo)
	d.Arm(0)
	d.Append(2, nil)
	_, err = Open(d)
	is(t, "a file that says none, dead", err, api.ErrDead)
	_, err = Open(deadDisk(t))
	is(t, "no file, dead", err, api.ErrDead)
}

func deadDisk(t *testing.T) *disk.Disk {
	d := diskOf(t, 440, nil)
	d.Arm(0)
	d.Append(2, nil)
	return d
}
