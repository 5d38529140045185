package mark

import (
	"bytes"
	"encoding/binary"
	"math"
	"testing"

	"quiver/api"
)

// opens holds what Open answers against the bytes that have to come.
func opens(t *testing.T, what string, b, want []byte) {
	t.Helper()
	got, err := Open(b)
	if err != api.OK || !bytes.Equal(got, want) {
		t.Errorf("%s: %v, %d, not %v", what, got, err, want)
	}
}

// fails holds what Open answers against an error, with nothing beside it.
func fails(t *testing.T, what string, b []byte, want api.Errno) {
	t.Helper()
	got, err := Open(b)
	if err != want || got != nil {
		t.Errorf("%s: %v, %d, not %d", what, got, err, want)
	}
}

// P3.2: the bytes, and behind them their mark with its highest byte first.
func TestSealAsWorded(t *testing.T) {
	for _, b := range rows() {
		want := binary.BigEndian.AppendUint64(bytes.Clone(b), worded(14695981039346656037, b))
		if got := Seal(b); !bytes.Equal(got, want) {
			t.Errorf("Seal(%v): %v, not %v", b, got, want)
		}
	}
}

// P3.2: sealed bytes written out, those of none among them.
func TestSealEdges(t *testing.T) {
	none := []byte{0xcb, 0xf2, 0x9c, 0xe4, 0x84, 0x22, 0x23, 0x25}
	for _, c := range []struct{ b, want []byte }{
		{nil, none},
		{[]byte{}, none},
		{[]byte("a"), []byte{'a', 0xaf, 0x63, 0xdc, 0x4c, 0x86, 0x01, 0xec, 0x8c}},
	} {
		if got := Seal(c.b); !bytes.Equal(got, c.want) {
			t.Errorf("Seal(%v): %x, not %x", c.b, got, c.want)
		}
	}
}

// P3.2: what was sealed is opened; sealed twice, it is opened twice.
func TestOpenWhatWasSealed(t *testing.T) {
	for _, b := range rows() {
		opens(t, "sealed", Seal(b), b)
		opens(t, "sealed twice", Seal(Seal(b)), Seal(b))
	}
	opens(t, "07", Seal([]byte{7}), []byte{7})
}

// P3.2: fewer than 8 bytes are too short, whatever they are.
func TestOpenShort(t *testing.T) {
	fails(t, "nil", nil, api.ErrShort)
	for n := range 8 {
		fails(t, "counted", counted(1, n), api.ErrShort)
		fails(t, "zeros", make([]byte, n), api.ErrShort)
		fails(t, "the beginning of Seal of none", Seal(nil)[:n], api.ErrShort)
		fails(t, "the end of Seal of none", Seal(nil)[8-n:], api.ErrShort)
		// The mark is whole behind the end, but there it does not count.
		fails(t, "the beginning of more", Seal([]byte{7})[:n], api.ErrShort)
	}
}

// P3.2: of just 8 bytes those of Seal of none are opened, and no others.
func TestOpenJustAMark(t *testing.T) {
	opens(t, "Seal of none", Seal(nil), nil)
	opens(t, "written out", []byte{0xcb, 0xf2, 0x9c, 0xe4, 0x84, 0x22, 0x23, 0x25}, nil)
	for _, mark := range append(marks(), Of([]byte{0}), Of([]byte{7}), Of(nil)-1, Of(nil)+1, math.MaxUint32) {
		if mark != Of(nil) {
			fails(t, "another mark", binary.BigEndian.AppendUint64(nil, mark), api.ErrMark)
		}
	}
	fails(t, "the lowest byte first", binary.LittleEndian.AppendUint64(nil, Of(nil)), api.ErrMark)
	fails(t, "zeros", make([]byte, 8), api.ErrMark)
}

// P3.2: each other mark behind the same bytes is told, and the mark ahead of its bytes.
func TestOpenAnotherMark(t *testing.T) {
	for _, b := range rows() {
		right := Of(b)
		for bit := range 64 {
			fails(t, "a bit turned", binary.BigEndian.AppendUint64(bytes.Clone(b), right^1<<bit), api.ErrMark)
		}
		fails(t, "the lowest byte first", binary.LittleEndian.AppendUint64(bytes.Clone(b), right), api.ErrMark)
		if len(b) > 0 {
			fails(t, "the mark ahead", append(binary.BigEndian.AppendUint64(nil, right), b...), api.ErrMark)
		}
	}
}

// P3.2: what was sealed, less a byte or with one more, at either end.
func TestOpenLessOrMore(t *testing.T) {
	for _, n := range []int{1, 2, 7, 8, 9, 40} {
		b := Seal(counted(1, n))
		fails(t, "without the first one", b[1:], api.ErrMark)
		fails(t, "without the last one", b[:len(b)-1], api.ErrMark)
		fails(t, "one more behind", append(bytes.Clone(b), 0), api.ErrMark)
		fails(t, "one more ahead", append([]byte{0}, b...), api.ErrMark)
	}
}

// P3.2: the example: the first byte is another one.
func TestOpenExample(t *testing.T) {
	b := Seal([]byte{7})
	b[0] = 8
	fails(t, "08 with the mark of 07", b, api.ErrMark)
	fails(t, "7 bytes", make([]byte, 7), api.ErrShort)
}

// P3.2, R3: Seal changes nothing, the room behind the end neither, and what it answers is new memory.
func TestSealNewMemory(t *testing.T) {
	for _, n := range []int{0, 1, 8, 24, 32} {
		whole := counted(1, 32)
		got := Seal(whole[:n])
		if !bytes.Equal(whole, counted(1, 32)) {
			t.Errorf("%d bytes were changed: %v", n, whole)
		}
		want := bytes.Clone(got)
		clear(whole)
		if !bytes.Equal(got, want) {
			t.Errorf("%d bytes: the answer shares memory with them", n)
		}
		clear(got[:cap(got)])
		if again := Seal(counted(1, n)); !bytes.Equal(again, want) {
			t.Errorf("%d bytes: two answers share memory", n)
		}
	}
}

// P3.2, R3: Open changes nothing, the room behind the end neither, and what it answers is new memory.
func TestOpenNewMemory(t *testing.T) {
	for _, n := range []int{0, 1, 8, 24} {
		b := counted(1, n)
		whole := append(Seal(b), 9, 9, 9, 9, 9, 9, 9, 9)
		kept := bytes.Clone(whole)
		got, err := Open(whole[:n+8])
		if err != api.OK || !bytes.Equal(got, b) || !bytes.Equal(whole, kept) {
			t.Errorf("%d bytes: %v, %d, left %v", n, got, err, whole)
		}
		_ = append(got, 1, 2, 3)
		clear(got[:cap(got)])
		if !bytes.Equal(whole, kept) {
			t.Errorf("%d bytes: what is done to the answer is done to what was handed in: %v", n, whole)
		}
		got, _ = Open(whole[:n+8])
		clear(whole)
		if !bytes.Equal(got, b) {
			t.Errorf("%d bytes: the answer shares memory with what was handed in", n)
		}
	}
}

// P3.2, R3: what is not opened is not changed either.
func TestOpenFailsAndChangesNothing(t *testing.T) {
	for n := range 30 {
		whole := counted(1, 40)
		if _, err := Open(whole[:n]); err == api.OK {
			t.Errorf("%d bytes were opened", n)
		}
		if !bytes.Equal(whole, counted(1, 40)) {
			t.Errorf("%d bytes were changed: %v", n, whole)
		}
	}
}
