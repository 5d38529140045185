package field

import (
	"bytes"
	"math"
	"testing"
)

// stands holds a scan against what Left, Place and Bad have to tell.
func stands(t *testing.T, what string, s *Scan, left, place int, bad bool) {
	t.Helper()
	if s.Left() != left || s.Place() != place || s.Bad() != bad {
		t.Errorf("%s: left %d, place %d, bad %v; not %d, %d, %v", what, s.Left(), s.Place(), s.Bad(), left, place, bad)
	}
}

// counted are the bytes from 0x81 on: each has its highest bit, and no two are the same.
func counted(n int) []byte {
	b := make([]byte, n)
	for i := range b {
		b[i] = byte(0x81 + i)
	}
	return b
}

// spoil asks a bad scan for all that could be taken off: it gets nothing, and the scan stands where it stood.
func spoil(t *testing.T, what string, s *Scan) {
	t.Helper()
	left, place := s.Left(), s.Place()
	for size := range 11 {
		if x, n, b := s.Num(size-1), s.Int(size-1), s.Bytes(size-1); x != 0 || n != 0 || len(b) != 0 {
			t.Errorf("%s, bad, size %d: %d, %d, %v", what, size-1, x, n, b)
		}
	}
	stands(t, what+", asked again", s, left, place, true)
}

// P1.3, P1.4: a scan that was just made.
func TestReadBegins(t *testing.T) {
	for n := range 20 {
		s := Read(counted(n))
		if s == nil {
			t.Fatalf("Read of %d bytes: nil", n)
		}
		stands(t, "made", s, n, 0, false)
	}
	stands(t, "made of nil", Read(nil), 0, 0, false)
}

// P1.3: fields one behind the other, and the chapter's example.
func TestTakeOff(t *testing.T) {
	s := Read([]byte{1, 2, 0xff})
	if x := s.Num(2); x != 258 {
		t.Errorf("Num(2): %d", x)
	}
	stands(t, "behind Num", s, 1, 2, false)
	if n := s.Int(1); n != -1 {
		t.Errorf("Int(1): %d", n)
	}
	stands(t, "behind Int", s, 0, 3, false)
	if x := s.Num(1); x != 0 {
		t.Errorf("Num(1) of none: %d", x)
	}
	stands(t, "behind the end", s, 0, 3, true)

	s = Read([]byte{5, 6, 7, 0x80, 0, 9})
	if b := s.Bytes(3); !bytes.Equal(b, []byte{5, 6, 7}) {
		t.Errorf("Bytes(3): %v", b)
	}
	if n := s.Int(2); n != -32768 {
		t.Errorf("Int(2): %d", n)
	}
	if x := s.Num(1); x != 9 {
		t.Errorf("Num(1): %d", x)
	}
	stands(t, "at the end", s, 0, 6, false)
}

// P1.3: the numbers of fields written out, with the highest bit and without.
func TestNumbersOfFields(t *testing.T) {
	for _, c := range []struct {
		b []byte
		x uint64
		n int64
	}{
		{[]byte{0}, 0, 0},
		{[]byte{0x7f}, 127, 127},
		{[]byte{0x80}, 128, -128},
		{[]byte{0xff}, 255, -1},
		{[]byte{0x01, 0xff}, 511, 511},
		{[]byte{0x7f, 0xff}, 32767, 32767},
		{[]byte{0x80, 0x01}, 32769, -32767},
		{[]byte{0xff, 0x00, 0x80}, 0xff0080, -65408},
		{[]byte{0x80, 0, 0, 0, 0, 0, 0}, 1 << 55, -1 << 55},
		{[]byte{1, 2, 3, 4, 5, 6, 7, 8}, 0x0102030405060708, 0x0102030405060708},
		{[]byte{0x80, 0, 0, 0, 0, 0, 0, 0}, 1 << 63, math.MinInt64},
		{[]byte{0x7f, 255, 255, 255, 255, 255, 255, 255}, math.MaxInt64, math.MaxInt64},
		{[]byte{255, 255, 255, 255, 255, 255, 255, 255}, math.MaxUint64, -1},
	} {
		if x := Read(c.b).Num(len(c.b)); x != c.x {
			t.Errorf("Num of %v: %d", c.b, x)
		}
		if n := Read(c.b).Int(len(c.b)); n != c.n {
			t.Errorf("Int of %v: %d", c.b, n)
		}
	}
}

// takers takes as many bytes off in each way; got tells whether something came.
func takers() map[string]func(s *Scan, n int) (got bool) {
	return map[string]func(s *Scan, n int) bool{
		"Num":   func(s *Scan, n int) bool { return s.Num(n) != 0 },
		"Int":   func(s *Scan, n int) bool { return s.Int(n) != 0 },
		"Bytes": func(s *Scan, n int) bool { return len(s.Bytes(n)) != 0 },
	}
}

// P1.3, P1.4: just enough bytes, more than enough, and one too few, from the beginning and further on.
func TestEnoughAndTooFew(t *testing.T) {
	for name, take := range takers() {
		for _, size := range sizes {
			for _, ahead := range []int{0, 1, 5} {
				for _, behind := range []int{0, 1, 9} {
					s := Read(counted(ahead + size + behind))
					s.Bytes(ahead)
					if !take(s, size) {
						t.Errorf("%s(%d) of enough: nothing", name, size)
					}
					stands(t, name+" of enough", s, behind, ahead+size, false)
				}
				s := Read(counted(ahead + size - 1))
				s.Bytes(ahead)
				if take(s, size) {
					t.Errorf("%s(%d) of one too few: something", name, size)
				}
				stands(t, name+" of one too few", s, size-1, ahead, true)
				spoil(t, name+" of one too few", s)
			}
		}
	}
}

// P1.3: what is no size makes a scan bad, however many bytes are left.
func TestTakeNoSize(t *testing.T) {
	for _, size := range noSizes {
		for _, n := range []int{0, 1, 8, 20, 100} {
			s := Read(counted(n))
			if x := s.Num(size); x != 0 {
				t.Errorf("Num(%d): %d", size, x)
			}
			stands(t, "Num of no size", s, n, 0, true)
			spoil(t, "Num of no size", s)

			s = Read(counted(n))
			if x := s.Int(size); x != 0 {
				t.Errorf("Int(%d): %d", size, x)
			}
			stands(t, "Int of no size", s, n, 0, true)
			spoil(t, "Int of no size", s)
		}
	}
}

// P1.3: Bytes of none is none and leaves the scan good, at the end too; of more than a size has it is all of them.
func TestBytesOfNoneAndAll(t *testing.T) {
	s := Read(counted(100))
	if b := s.Bytes(0); len(b) != 0 {
		t.Errorf("Bytes(0): %v", b)
	}
	stands(t, "behind none", s, 100, 0, false)
	if b := s.Bytes(100); !bytes.Equal(b, counted(100)) {
		t.Errorf("Bytes(100): %v", b)
	}
	stands(t, "behind all", s, 0, 100, false)
	if b := s.Bytes(0); len(b) != 0 {
		t.Errorf("Bytes(0) at the end: %v", b)
	}
	stands(t, "behind none at the end", s, 0, 100, false)
}

// P1.3: Bytes of a number below 0, and of more than are left.
func TestBytesWrong(t *testing.T) {
	for _, n := range []int{-1, -8, math.MinInt, 4, 5, math.MaxInt} {
		s := Read(counted(5))
		s.Num(2)
		if b := s.Bytes(n); len(b) != 0 {
			t.Errorf("Bytes(%d): %v", n, b)
		}
		stands(t, "Bytes", s, 3, 2, true)
		spoil(t, "Bytes", s)
	}
}

// P1.4: a scan that is not there.
func TestNilScan(t *testing.T) {
	var s *Scan
	stands(t, "nil", s, 0, 0, true)
	spoil(t, "nil", s)
	for _, n := range []int{math.MinInt, math.MaxInt} {
		if x, m, b := s.Num(n), s.Int(n), s.Bytes(n); x != 0 || m != 0 || len(b) != 0 {
			t.Errorf("nil, %d: %d, %d, %v", n, x, m, b)
		}
	}
}

// R3: a scan keeps nothing of what it is handed and changes nothing of it.
func TestReadKeepsNothing(t *testing.T) {
	whole := counted(16)
	b := whole[:10]
	s := Read(b)
	clear(whole)
	if x := s.Num(2); x != 0x8182 {
		t.Errorf("Num behind a change of b: %x", x)
	}
	if got := s.Bytes(8); !bytes.Equal(got, counted(10)[2:]) {
		t.Errorf("Bytes behind a change of b: %v", got)
	}

	whole = counted(16)
	s = Read(whole[:10])
	s.Num(3)
	got := s.Bytes(4)
	clear(got[:cap(got)])
	_ = append(got, 1, 2, 3)
	s.Num(9)
	if !bytes.Equal(whole, counted(16)) {
		t.Errorf("b was changed: %v", whole)
	}
}

// R3: what Bytes answers shares nothing with what is left, nor with another answer.
func TestBytesNewMemory(t *testing.T) {
	s := Read(counted(12))
	a := s.Bytes(4)
	_ = append(a, 1, 2, 3, 4, 5, 6, 7, 8)
	clear(a[:cap(a)])
	b := s.Bytes(4)
	if !bytes.Equal(b, counted(12)[4:8]) {
		t.Errorf("the second answer: %v", b)
	}
	clear(b[:cap(b)])
	if x := s.Num(4); x != 0x898a8b8c {
		t.Errorf("what is left: %x", x)
	}

	first := Read(counted(3))
	second := *first
	clear(first.Bytes(3))
	if b := second.Bytes(3); !bytes.Equal(b, counted(3)) {
		t.Errorf("an answer shares memory with a scan: %v", b)
	}
}

// R5: two scans of the same bytes do not meet.
func TestScansApart(t *testing.T) {
	b := counted(4)
	one, two := Read(b), Read(b)
	one.Num(9)
	if x := two.Num(4); x != 0x81828384 || two.Bad() || !one.Bad() {
		t.Errorf("%x, %v, %v", x, one.Bad(), two.Bad())
	}
}
