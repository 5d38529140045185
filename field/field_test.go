package field

import (
	"bytes"
	"math"
	"math/big"
	"testing"
)

var sizes = []int{1, 2, 3, 4, 5, 6, 7, 8}

var noSizes = []int{0, -1, -7, -8, 9, 16, 64, 65, math.MinInt, math.MaxInt}

// numbers are those around each power of two, the greatest one, and some whose bytes all differ.
func numbers() []uint64 {
	l := []uint64{0, math.MaxUint64, 0x0102030405060708, 0xf1e2d3c4b5a69788}
	for bit := range 64 {
		p := uint64(1) << bit
		l = append(l, p-1, p, p+1)
	}
	return l
}

// ints are those around each power of two and its opposite, and the least and the greatest one.
func ints() []int64 {
	l := []int64{math.MinInt64, math.MinInt64 + 1, math.MaxInt64, 0x0102030405060708, -0x0102030405060708}
	for bit := range 63 {
		p := int64(1) << bit
		l = append(l, p-1, p, p+1, -p-1, -p, -p+1)
	}
	return l
}

// power is 256 to the power of the size.
func power(size int) *big.Int {
	return new(big.Int).Lsh(big.NewInt(1), uint(8*size))
}

func bigOf(x uint64) *big.Int {
	return new(big.Int).SetUint64(x)
}

// fieldOf is the field as the chapter words it, by whole numbers without a bound.
func fieldOf(size int, n *big.Int) []byte {
	b := make([]byte, size)
	return new(big.Int).Mod(n, power(size)).FillBytes(b)
}

// P1.1: all numbers around powers of two, against the chapter's words.
func TestFitsAsWorded(t *testing.T) {
	for _, size := range sizes {
		for _, x := range numbers() {
			if got, want := Fits(size, x), bigOf(x).Cmp(power(size)) < 0; got != want {
				t.Errorf("Fits(%d, %d): %v", size, x, got)
			}
		}
		for _, n := range ints() {
			twice := new(big.Int).Lsh(big.NewInt(n), 1)
			least := new(big.Int).Neg(power(size))
			want := twice.Cmp(least) >= 0 && twice.Cmp(power(size)) < 0
			if got := FitsInt(size, n); got != want {
				t.Errorf("FitsInt(%d, %d): %v", size, n, got)
			}
		}
	}
}

// P1.1: the least and the greatest numbers that fit, and the next ones that do not.
func TestFitsEdges(t *testing.T) {
	for _, c := range []struct {
		size int
		x    uint64
		want bool
	}{
		{1, 0, true}, {1, 255, true}, {1, 256, false},
		{2, 65535, true}, {2, 65536, false},
		{4, math.MaxUint32, true}, {4, math.MaxUint32 + 1, false},
		{7, 1<<56 - 1, true}, {7, 1 << 56, false},
		{8, 0, true}, {8, math.MaxUint64, true},
	} {
		if got := Fits(c.size, c.x); got != c.want {
			t.Errorf("Fits(%d, %d): %v", c.size, c.x, got)
		}
	}
	for _, c := range []struct {
		size int
		n    int64
		want bool
	}{
		{1, -128, true}, {1, -129, false}, {1, 127, true}, {1, 128, false}, {1, 255, false},
		{2, -32768, true}, {2, -32769, false}, {2, 32767, true}, {2, 32768, false},
		{7, -1 << 55, true}, {7, -1<<55 - 1, false}, {7, 1<<55 - 1, true}, {7, 1 << 55, false},
		{8, math.MinInt64, true}, {8, math.MaxInt64, true}, {8, -1, true},
	} {
		if got := FitsInt(c.size, c.n); got != c.want {
			t.Errorf("FitsInt(%d, %d): %v", c.size, c.n, got)
		}
	}
}

// P1.1: nothing fits what is no size, 0 neither.
func TestFitsNoSize(t *testing.T) {
	for _, size := range noSizes {
		for _, x := range numbers() {
			if Fits(size, x) {
				t.Errorf("Fits(%d, %d)", size, x)
			}
		}
		for _, n := range ints() {
			if FitsInt(size, n) {
				t.Errorf("FitsInt(%d, %d)", size, n)
			}
		}
	}
}

// P1.2: the field of every number, of one that does not fit too, behind the bytes of b.
func TestPutAsWorded(t *testing.T) {
	for _, b := range [][]byte{nil, {}, {7}, {0, 255, 3}} {
		for _, size := range sizes {
			for _, x := range numbers() {
				want := append(bytes.Clone(b), fieldOf(size, bigOf(x))...)
				if got := Put(b, size, x); !bytes.Equal(got, want) {
					t.Errorf("Put(%v, %d, %d): %v, not %v", b, size, x, got, want)
				}
			}
			for _, n := range ints() {
				want := append(bytes.Clone(b), fieldOf(size, big.NewInt(n))...)
				if got := Lay(b, size, n); !bytes.Equal(got, want) {
					t.Errorf("Lay(%v, %d, %d): %v, not %v", b, size, n, got, want)
				}
			}
		}
	}
}

// P1.2: fields written out.
func TestPutEdges(t *testing.T) {
	for _, c := range []struct{ got, want []byte }{
		{Put([]byte{7}, 2, 258), []byte{7, 1, 2}},
		{Put(nil, 1, 255), []byte{255}},
		{Put(nil, 1, 256), []byte{0}},
		{Put(nil, 2, 0x010203), []byte{2, 3}},
		{Put(nil, 8, 0x0102030405060708), []byte{1, 2, 3, 4, 5, 6, 7, 8}},
		{Put([]byte{9}, 8, math.MaxUint64), []byte{9, 255, 255, 255, 255, 255, 255, 255, 255}},
		{Lay(nil, 3, -2), []byte{0xff, 0xff, 0xfe}},
		{Lay(nil, 1, -128), []byte{0x80}},
		{Lay(nil, 1, 127), []byte{0x7f}},
		{Lay(nil, 1, 128), []byte{0x80}},
		{Lay(nil, 1, -129), []byte{0x7f}},
		{Lay(nil, 8, math.MinInt64), []byte{0x80, 0, 0, 0, 0, 0, 0, 0}},
		{Lay([]byte{9}, 8, -1), []byte{9, 255, 255, 255, 255, 255, 255, 255, 255}},
	} {
		if !bytes.Equal(c.got, c.want) {
			t.Errorf("%v, not %v", c.got, c.want)
		}
	}
}

// P1.2: of what is no size the bytes of b alone.
func TestPutNoSize(t *testing.T) {
	for _, size := range noSizes {
		for _, b := range [][]byte{nil, {}, {7}, {1, 2, 3}} {
			if got := Put(b, size, 1); !bytes.Equal(got, b) {
				t.Errorf("Put(%v, %d, 1): %v", b, size, got)
			}
			if got := Lay(b, size, -1); !bytes.Equal(got, b) {
				t.Errorf("Lay(%v, %d, -1): %v", b, size, got)
			}
		}
	}
}

// P1.2, R3: b and the room behind its end stay as they are; the answer is new memory, of what is no size too.
func TestPutNewMemory(t *testing.T) {
	for _, size := range append([]int{0, 9, -1}, sizes...) {
		for name, put := range map[string]func(b []byte) []byte{
			"Put": func(b []byte) []byte { return Put(b, size, 0x1122334455667788) },
			"Lay": func(b []byte) []byte { return Lay(b, size, -0x1122334455667788) },
		} {
			whole := bytes.Repeat([]byte{0xaa}, 32)
			b := whole[:4]
			got := put(b)
			if !bytes.Equal(whole, bytes.Repeat([]byte{0xaa}, 32)) {
				t.Errorf("%s, size %d: b was changed: %v", name, size, whole)
			}
			kept := bytes.Clone(got)
			clear(whole)
			if !bytes.Equal(got, kept) {
				t.Errorf("%s, size %d: the answer shares memory with b", name, size)
			}
		}
	}
}

// P1.2: two fields put behind the same bytes do not meet.
func TestPutTwiceBehindOne(t *testing.T) {
	for range 3 {
		head := Put(nil, 1, 1)
		a, b := Put(head, 1, 2), Put(head, 1, 3)
		if !bytes.Equal(a, []byte{1, 2}) || !bytes.Equal(b, []byte{1, 3}) || !bytes.Equal(head, []byte{1}) {
			t.Errorf("%v, %v behind %v", a, b, head)
		}
	}
}
