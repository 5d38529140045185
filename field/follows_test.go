package field

import (
	"bytes"
	"cmp"
	"testing"
)

// fitting are those numbers that fit the size, without a sign and with one.
func fitting(size int) (l []uint64, signed []int64) {
	for _, x := range numbers() {
		if Fits(size, x) {
			l = append(l, x)
		}
	}
	for _, n := range ints() {
		if FitsInt(size, n) {
			signed = append(signed, n)
		}
	}
	return l, signed
}

// P1.5: what was put, field by field, is taken off, if it fits, and nothing is left.
func TestPutIsTakenOff(t *testing.T) {
	var b []byte
	for _, size := range sizes {
		l, signed := fitting(size)
		for _, x := range l {
			b = Put(b, size, x)
		}
		for _, n := range signed {
			b = Lay(b, size, n)
		}
	}
	s := Read(b)
	for _, size := range sizes {
		l, signed := fitting(size)
		for _, x := range l {
			if got := s.Num(size); got != x {
				t.Fatalf("Num(%d): %d, not %d", size, got, x)
			}
		}
		for _, n := range signed {
			if got := s.Int(size); got != n {
				t.Fatalf("Int(%d): %d, not %d", size, got, n)
			}
		}
	}
	stands(t, "taken off", s, 0, len(b), false)
}

// P1.5: a number that does not fit is not taken off as it was put.
func TestWhatDoesNotFitIsAnother(t *testing.T) {
	for _, size := range sizes {
		for _, x := range numbers() {
			if same := Read(Put(nil, size, x)).Num(size) == x; same != Fits(size, x) {
				t.Errorf("size %d, %d: the same %v", size, x, same)
			}
		}
		for _, n := range ints() {
			if same := Read(Lay(nil, size, n)).Int(size) == n; same != FitsInt(size, n) {
				t.Errorf("size %d, %d: the same %v", size, n, same)
			}
		}
	}
}

// P1.5: two fields side by side are one of both sizes together, if that is a size.
func TestTwoFieldsAreOne(t *testing.T) {
	for _, high := range sizes {
		for _, low := range sizes {
			b := Put(counted(high), low, 0x0102030405060708)
			s := Read(b)
			x := s.Num(high + low)
			if high+low > 8 {
				stands(t, "of no size", s, high+low, 0, true)
				continue
			}
			parts := Read(b)
			h, l := parts.Num(high), parts.Num(low)
			if want := h<<(8*low) | l; x != want {
				t.Errorf("%d and %d: %x, not %x", high, low, x, want)
			}
			if !bytes.Equal(Put(nil, high+low, x), b) {
				t.Errorf("%d and %d: put again %v, not %v", high, low, Put(nil, high+low, x), b)
			}
			stands(t, "of both", s, 0, high+low, false)
		}
	}
}

// P1.5: fields of one size stand in the order of their numbers.
func TestFieldsInOrder(t *testing.T) {
	for _, size := range sizes {
		l, _ := fitting(size)
		for _, x := range l {
			for _, y := range l {
				if bytes.Compare(Put(nil, size, x), Put(nil, size, y)) != cmp.Compare(x, y) {
					t.Fatalf("size %d: %d and %d", size, x, y)
				}
			}
		}
	}
}

// turned is the field of a number with a sign, its highest bit turned.
func turned(size int, n int64) []byte {
	b := Lay(nil, size, n)
	b[0] ^= 0x80
	return b
}

// P1.5: those with a sign too, if the highest bit of each is turned.
func TestTurnedFieldsInOrder(t *testing.T) {
	for _, size := range sizes {
		_, l := fitting(size)
		for _, m := range l {
			for _, n := range l {
				if bytes.Compare(turned(size, m), turned(size, n)) != cmp.Compare(m, n) {
					t.Fatalf("size %d: %d and %d", size, m, n)
				}
			}
		}
	}
}
