package disk

import (
	"bytes"
	"math/rand"
	"slices"
	"testing"

	"quiver/api"
)

// plain is a disk as the chapter words it, byte by byte: the model that the disk is held against.
type plain struct {
	room           int
	there, kept    [api.MaxFiles]bool
	synced, loose  [api.MaxFiles][]byte
	armed, failing int
	ops            int
	dead           bool
}

// call is one call of a disk; file and n are what it is handed, b an Append's bytes, keep a Crash's.
type call struct {
	what, file, n int
	b             []byte
	keep          []bool
}

const (
	callAppend = iota
	callSync
	callRead
	callTruncate
	callRename
	callRemove
	callArm
	callFail
	callCrash
	calls
)

func isName(n int) bool {
	return 0 <= n && n < api.MaxFiles
}

func (p *plain) bytes(file int) []byte {
	return slices.Concat(p.synced[file], p.loose[file])
}

func (p *plain) sum() int {
	sum := 0
	for file := range api.MaxFiles {
		sum += len(p.synced[file]) + len(p.loose[file])
	}
	return sum
}

// refuses is what refuses the call, in the chapter's order.
func (p *plain) refuses(c call) api.Errno {
	if c.what == callCrash {
		return api.OK
	}
	if p.dead {
		return api.ErrDead
	}
	if c.what == callArm || c.what == callFail {
		if c.n < -1 {
			return api.ErrArg
		}
		return api.OK
	}
	if !isName(c.file) || c.what == callRename && !isName(c.n) {
		return api.ErrFile
	}
	if c.what == callAppend {
		if p.sum()+len(c.b) > p.room {
			return api.ErrFull
		}
		return api.OK
	}
	if !p.there[c.file] {
		return api.ErrNone
	}
	if c.what == callTruncate && (c.n < 0 || c.n > len(p.bytes(c.file))) {
		return api.ErrArg
	}
	return api.OK
}

// play does the call, and answers what it answers.
func (p *plain) play(c call) ([]byte, api.Errno) {
	if err := p.refuses(c); err != api.OK {
		return nil, err
	}
	switch c.what {
	case callArm:
		p.armed = c.n
		return nil, api.OK
	case callFail:
		p.failing = c.n
		return nil, api.OK
	case callCrash:
		p.crash(c.keep)
		return nil, api.OK
	}
	p.ops++
	if p.armed == 0 {
		p.dead = true
		if c.what == callAppend {
			p.do(c)
		}
		return nil, api.ErrDead
	}
	if p.armed > 0 {
		p.armed--
	}
	if p.failing == 0 {
		p.failing = -1
		return nil, api.ErrIo
	}
	if p.failing > 0 {
		p.failing--
	}
	return p.do(c), api.OK
}

func (p *plain) do(c call) []byte {
	switch c.what {
	case callAppend:
		p.there[c.file] = true
		p.loose[c.file] = slices.Concat(p.loose[c.file], c.b)
	case callSync:
		p.synced[c.file], p.loose[c.file], p.kept[c.file] = p.bytes(c.file), nil, true
	case callRead:
		return p.bytes(c.file)
	case callTruncate:
		whole, synced := p.bytes(c.file)[:c.n], min(c.n, len(p.synced[c.file]))
		p.synced[c.file], p.loose[c.file] = whole[:synced], whole[synced:]
	case callRename:
		if c.file != c.n {
			p.there[c.n], p.kept[c.n] = true, true
			p.synced[c.n], p.loose[c.n] = p.synced[c.file], p.loose[c.file]
			p.forget(c.file)
		}
	case callRemove:
		p.forget(c.file)
	}
	return nil
}

func (p *plain) forget(file int) {
	p.there[file], p.kept[file], p.synced[file], p.loose[file] = false, false, nil, nil
}

func (p *plain) pending() []int {
	var l []int
	for file := range api.MaxFiles {
		for range slices.Collect(slices.Chunk(p.loose[file], api.Piece)) {
			l = append(l, file)
		}
	}
	return l
}

func (p *plain) crash(keep []bool) {
	i := 0
	for file := range api.MaxFiles {
		going := true
		for piece := range slices.Chunk(p.loose[file], api.Piece) {
			going = going && i < len(keep) && keep[i]
			if going {
				p.synced[file] = slices.Concat(p.synced[file], piece)
			}
			i++
		}
		p.loose[file] = nil
		p.kept[file] = p.there[file] && p.kept[file] || len(p.synced[file]) > 0
		p.there[file] = p.kept[file]
	}
	p.dead, p.armed, p.failing = false, -1, -1
}

// ask does the call to the disk.
func ask(d *Disk, c call) ([]byte, api.Errno) {
	switch c.what {
	case callAppend:
		return nil, d.Append(c.file, c.b)
	case callSync:
		return nil, d.Sync(c.file)
	case callRead:
		return d.Read(c.file)
	case callTruncate:
		return nil, d.Truncate(c.file, c.n)
	case callRename:
		return nil, d.Rename(c.file, c.n)
	case callRemove:
		return nil, d.Remove(c.file)
	case callArm:
		return nil, d.Arm(c.n)
	case callFail:
		return nil, d.Fail(c.n)
	}
	return nil, d.Crash(c.keep)
}

// drawn is a call by chance, from a source that always gives the same; half of them grow a file.
func drawn(r *rand.Rand) call {
	c := call{what: r.Intn(2 * calls), file: r.Intn(api.MaxFiles+1) - r.Intn(2)}
	if c.what >= calls {
		c.what = callAppend
	}
	switch c.what {
	case callAppend:
		c.b = make([]byte, r.Intn(2*api.Piece+3))
		r.Read(c.b)
	case callTruncate:
		c.n = r.Intn(40) - 1
	case callRename:
		c.n = r.Intn(api.MaxFiles+2) - 1
	case callArm, callFail:
		c.n = r.Intn(20) - 2
	case callCrash:
		c.keep = make([]bool, r.Intn(20))
		for i := range c.keep {
			c.keep[i] = r.Intn(4) != 0
		}
	}
	return c
}

// like holds all that a disk tells against the model.
func like(t *testing.T, d *Disk, p *plain) {
	t.Helper()
	var there []int
	for file := range api.MaxFiles {
		if p.there[file] {
			there = append(there, file)
		}
		if d.Size(file) != len(p.bytes(file)) {
			t.Fatalf("Size(%d): %d, not %d", file, d.Size(file), len(p.bytes(file)))
		}
	}
	if !slices.Equal(d.Files(), there) || !slices.Equal(d.Pending(), p.pending()) {
		t.Fatalf("%v, %v, not %v, %v", d.Files(), d.Pending(), there, p.pending())
	}
	if d.Ops() != p.ops || d.Dead() != p.dead || d.Room() != p.room {
		t.Fatalf("%d, %v, %d, not %d, %v, %d", d.Ops(), d.Dead(), d.Room(), p.ops, p.dead, p.room)
	}
}

// contents are the bytes of all files, as a copy that is alive reads them.
func contents(t *testing.T, d *Disk) (l [api.MaxFiles][]byte) {
	t.Helper()
	c := d.Copy()
	if c.Dead() {
		c.Crash(all)
	}
	c.Arm(-1)
	c.Fail(-1)
	for _, file := range c.Files() {
		b, err := c.Read(file)
		must(t, err)
		l[file] = b
	}
	return l
}

// P2.1 to P2.6: long rows of calls, against the chapter's words; and two disks that are asked the same do the same.
func TestRowsOfCalls(t *testing.T) {
	for seed := range int64(60) {
		r := rand.New(rand.NewSource(seed))
		room := 1 + r.Intn(150)
		d, twin := made(t, room), made(t, room)
		p := &plain{room: room, armed: -1, failing: -1}
		for step := range 600 {
			c := drawn(r)
			got, err := ask(d, c)
			want, wantErr := p.play(c)
			if err != wantErr || !bytes.Equal(got, want) {
				t.Fatalf("seed %d, step %d, %+v: %v, %d, not %v, %d", seed, step, c, got, err, want, wantErr)
			}
			if again, sameErr := ask(twin, c); sameErr != err || !bytes.Equal(again, got) {
				t.Fatalf("seed %d, step %d, %+v: %v, %d, then %v, %d", seed, step, c, got, err, again, sameErr)
			}
			like(t, d, p)
			like(t, twin, p)
			for file, b := range contents(t, d) {
				if !bytes.Equal(b, p.bytes(file)) {
					t.Fatalf("seed %d, step %d: file %d has %v, not %v", seed, step, file, b, p.bytes(file))
				}
			}
			if step%50 == 49 {
				d = d.Copy()
			}
		}
	}
}

// P2.6: behind a Crash a file is a beginning of what it was, with all that was synced; what was synced all over is untouched.
func TestCrashLeavesBeginnings(t *testing.T) {
	for seed := range int64(200) {
		r := rand.New(rand.NewSource(seed))
		d := made(t, 300)
		var synced, whole [api.MaxFiles][]byte
		for range 20 {
			file := r.Intn(api.MaxFiles)
			b := make([]byte, r.Intn(15))
			r.Read(b)
			must(t, d.Append(file, b))
			whole[file] = append(whole[file], b...)
			if r.Intn(3) == 0 {
				must(t, d.Sync(file))
				synced[file] = bytes.Clone(whole[file])
			}
		}
		keep := make([]bool, r.Intn(40))
		for i := range keep {
			keep[i] = r.Intn(3) != 0
		}
		must(t, d.Crash(keep))
		for file, got := range contents(t, d) {
			if !bytes.HasPrefix(whole[file], got) || !bytes.HasPrefix(got, synced[file]) {
				t.Errorf("seed %d: file %d has %v; it was %v, synced %v", seed, file, got, whole[file], synced[file])
			}
			if len(synced[file]) == len(whole[file]) && !bytes.Equal(got, whole[file]) {
				t.Errorf("seed %d: file %d was synced all over, and has %v", seed, file, got)
			}
		}
	}
}

// P2.6: what is done to one file, or to two by a Rename, changes no other one; the room is never passed.
func TestOthersAreUntouched(t *testing.T) {
	r := rand.New(rand.NewSource(7))
	d := made(t, 90)
	for step := range 5000 {
		c := drawn(r)
		if c.what >= callArm {
			continue
		}
		ahead, there := contents(t, d), d.Files()
		ask(d, c)
		sum := 0
		for file, b := range contents(t, d) {
			sum += len(b)
			touched := file == c.file || c.what == callRename && file == c.n
			same := bytes.Equal(b, ahead[file]) && slices.Contains(there, file) == slices.Contains(d.Files(), file)
			if !touched && !same {
				t.Fatalf("step %d, %+v: file %d has %v, not %v", step, c, file, b, ahead[file])
			}
		}
		if sum > d.Room() {
			t.Fatalf("step %d: %d bytes in room for %d", step, sum, d.Room())
		}
	}
}
