package mark

import (
	"bytes"
	"testing"

	"quiver/api"
)

// P3.4: On of On is On of both, one behind the other; Back of both is Back of the first one behind Back of the second.
func TestMarksGoOn(t *testing.T) {
	few := [][]byte{nil, {}, {0}, {255}, {7}, {0, 255}, counted(0, 256), counted(77, 1000)}
	for _, mark := range marks() {
		for _, a := range few {
			for _, b := range few {
				both := append(bytes.Clone(a), b...)
				if On(On(mark, a), b) != On(mark, both) {
					t.Errorf("mark %x, %v and %v: On of On", mark, a, b)
				}
				if Back(Back(mark, b), a) != Back(mark, both) {
					t.Errorf("mark %x, %v and %v: Back of Back", mark, a, b)
				}
				if On(Of(a), b) != Of(both) {
					t.Errorf("%v and %v: On of Of", a, b)
				}
			}
		}
	}
}

// P3.4: cut at each place, bytes have the mark that they have in one.
func TestMarksGoOnFromEachPlace(t *testing.T) {
	b := counted(200, 120)
	for i := range len(b) + 1 {
		if On(Of(b[:i]), b[i:]) != Of(b) {
			t.Errorf("cut at %d", i)
		}
	}
}

// P3.4: Back of On is the mark, On of Back too.
func TestThereAndBack(t *testing.T) {
	for _, mark := range marks() {
		for _, b := range rows() {
			if got := Back(On(mark, b), b); got != mark {
				t.Errorf("Back of On(%x, %v): %x", mark, b, got)
			}
			if got := On(Back(mark, b), b); got != mark {
				t.Errorf("On of Back(%x, %v): %x", mark, b, got)
			}
		}
	}
}

// P3.4: bytes of one length that differ at just one place have other marks, whatever they begin with.
func TestOneOtherByte(t *testing.T) {
	for _, mark := range marks() {
		for _, n := range []int{1, 2, 9, 40} {
			for i := range n {
				seen := map[uint64]int{}
				for x := range 256 {
					b := counted(5, n)
					b[i] = byte(x)
					seen[On(mark, b)]++
				}
				if len(seen) != 256 {
					t.Errorf("from %x, %d bytes, place %d: %d marks", mark, n, i, len(seen))
				}
			}
		}
	}
}

// P3.4: what was sealed, and has one byte that is another one, is not opened: each place, ahead of the mark and within it, and each other byte.
func TestOneOtherByteIsNotOpened(t *testing.T) {
	for _, n := range []int{0, 1, 2, 8, 33} {
		sealed := Seal(counted(250, n))
		for i := range sealed {
			for x := range 255 {
				b := bytes.Clone(sealed)
				b[i] += byte(x + 1)
				if got, err := Open(b); err != api.ErrMark || got != nil {
					t.Fatalf("%d bytes, place %d, %d more: %v, %d", n, i, x+1, got, err)
				}
			}
		}
		opens(t, "unchanged", sealed, counted(250, n))
	}
}

// P3.4: marks that differ differ behind the same bytes, and ahead of them.
func TestMarksThatDiffer(t *testing.T) {
	for _, b := range rows() {
		on, back := map[uint64]int{}, map[uint64]int{}
		for _, mark := range marks() {
			on[On(mark, b)]++
			back[Back(mark, b)]++
		}
		if len(on) != len(marks()) || len(back) != len(marks()) {
			t.Errorf("behind %v: %d, ahead %d, of %d", b, len(on), len(back), len(marks()))
		}
	}
}

// P3.4, R5: the same arguments have the same answers, whatever was asked between.
func TestAskedAgain(t *testing.T) {
	for _, b := range rows() {
		of, on, back, sealed := Of(b), On(3, b), Back(3, b), Seal(b)
		Open(counted(0, 30))
		Place(b, sealed)
		if Of(b) != of || On(3, b) != on || Back(3, b) != back || !bytes.Equal(Seal(b), sealed) {
			t.Errorf("%v: other answers", b)
		}
	}
}
