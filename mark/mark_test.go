package mark

import (
	"bytes"
	"hash/fnv"
	"math"
	"math/big"
	"testing"
)

// marks are the least and the greatest ones, those around the lowest byte's end, and some whose bytes all differ.
func marks() []uint64 {
	return []uint64{
		0, 1, 5, 255, 256, 257, 1 << 32, 1 << 63, 1<<63 - 1, math.MaxUint64 - 1, math.MaxUint64,
		14695981039346656037, 1099511628211, 0x0102030405060708, 0xf1e2d3c4b5a69788,
	}
}

// counted are n bytes, the first one is from.
func counted(from, n int) []byte {
	b := make([]byte, n)
	for i := range b {
		b[i] = byte(from + i)
	}
	return b
}

// rows are no bytes, each byte alone, two of the least and of the greatest ones, and longer ones.
func rows() [][]byte {
	l := [][]byte{
		nil, {}, {0, 0}, {0, 255}, {255, 0}, {255, 255}, {1, 2, 3},
		make([]byte, 8), bytes.Repeat([]byte{255}, 9), counted(0, 256), counted(77, 1000),
	}
	for x := range 256 {
		l = append(l, []byte{byte(x)})
	}
	return l
}

// worded is the mark stepped as the chapter words it, by whole numbers without a bound.
func worded(mark uint64, b []byte) uint64 {
	power := new(big.Int).Lsh(big.NewInt(1), 64)
	m := new(big.Int).SetUint64(mark)
	for _, x := range b {
		m.Xor(m, big.NewInt(int64(x)))
		m.Mul(m, big.NewInt(1099511628211))
		m.Mod(m, power)
	}
	return m.Uint64()
}

// P3.1: marks of FNV-1a as they are known, and the chapter's own.
func TestOfKnown(t *testing.T) {
	for _, c := range []struct {
		b    string
		want uint64
	}{
		{"", 14695981039346656037},
		{"", 0xcbf29ce484222325},
		{"a", 0xaf63dc4c8601ec8c},
		{"b", 0xaf63df4c8601f1a5},
		{"foobar", 0x85944171f73967e8},
	} {
		if got := Of([]byte(c.b)); got != c.want {
			t.Errorf("Of(%q): %x, not %x", c.b, got, c.want)
		}
	}
	if Of(nil) != 0xcbf29ce484222325 || Of([]byte{}) != Of(nil) {
		t.Errorf("Of no bytes: %x, %x", Of(nil), Of([]byte{}))
	}
}

// P3.1: of all rows, against the chapter's words and against the library's sum.
func TestOfAsWorded(t *testing.T) {
	for _, b := range rows() {
		h := fnv.New64a()
		h.Write(b)
		if got := Of(b); got != worded(14695981039346656037, b) || got != h.Sum64() {
			t.Errorf("Of(%v): %x, not %x", b, got, h.Sum64())
		}
	}
}

// P3.1: from each mark on, 0 and the greatest one among them, against the chapter's words.
func TestOnAsWorded(t *testing.T) {
	for _, mark := range marks() {
		for _, b := range rows() {
			if got, want := On(mark, b), worded(mark, b); got != want {
				t.Errorf("On(%x, %v): %x, not %x", mark, b, got, want)
			}
		}
	}
}

// P3.1: steps written out.
func TestOnEdges(t *testing.T) {
	for _, c := range []struct {
		mark uint64
		b    []byte
		want uint64
	}{
		{1, nil, 1},
		{0, nil, 0},
		{math.MaxUint64, []byte{}, math.MaxUint64},
		{0, []byte{0}, 0},
		{0, []byte{1}, 1099511628211},
		{0, []byte{255}, 255 * 1099511628211},
		{7, []byte{7}, 0},
		{7, []byte{7, 1}, 1099511628211},
		{256, []byte{0}, 256 * 1099511628211},
		{math.MaxUint64, []byte{0}, math.MaxUint64 - 1099511628210},
		{math.MaxUint64, []byte{255}, 0xffff000000000000 - 256*435},
	} {
		if got := On(c.mark, c.b); got != c.want {
			t.Errorf("On(%x, %v): %x, not %x", c.mark, c.b, got, c.want)
		}
	}
}

// P3.1: the marks from which such steps go, written out.
func TestBackEdges(t *testing.T) {
	for _, c := range []struct {
		mark uint64
		b    []byte
		want uint64
	}{
		{1, nil, 1},
		{0, nil, 0},
		{math.MaxUint64, []byte{}, math.MaxUint64},
		{0, []byte{0}, 0},
		{0, []byte{255}, 255},
		{1099511628211, []byte{0}, 1},
		{1099511628211, []byte{255}, 254},
		{1099511628211, []byte{7, 1}, 7},
		{0, []byte{7, 0}, 7},
		{0, []byte{0, 7}, 0xce965057aff6957b * 7 & math.MaxUint64},
	} {
		if got := Back(c.mark, c.b); got != c.want {
			t.Errorf("Back(%x, %v): %x, not %x", c.mark, c.b, got, c.want)
		}
	}
	if got := Back(On(5, []byte{7}), []byte{7}); got != 5 {
		t.Errorf("Back of On: %d", got)
	}
}

// P3.1: Back is the one that comes to the mark, by the chapter's words of a step.
func TestBackComesToTheMark(t *testing.T) {
	for _, mark := range marks() {
		for _, b := range rows() {
			if got := worded(Back(mark, b), b); got != mark {
				t.Errorf("Back(%x, %v) comes to %x", mark, b, got)
			}
		}
	}
}

// P3.1: which way bytes go makes a difference.
func TestOrderOfBytes(t *testing.T) {
	for _, mark := range marks() {
		if On(mark, []byte{1, 2}) == On(mark, []byte{2, 1}) {
			t.Errorf("On(%x): the order makes no difference", mark)
		}
		if Back(mark, []byte{1, 2}) == Back(mark, []byte{2, 1}) {
			t.Errorf("Back(%x): the order makes no difference", mark)
		}
	}
}

// P3.1, R3: the bytes and the room behind their end stay as they are, and that room makes no difference.
func TestMarksTouchNothing(t *testing.T) {
	for n := range 20 {
		whole := counted(1, 32)
		b := whole[:n]
		of, on, back := Of(b), On(9, b), Back(9, b)
		if !bytes.Equal(whole, counted(1, 32)) {
			t.Errorf("%d bytes were changed: %v", n, whole)
		}
		clear(whole[n:])
		if Of(b) != of || On(9, b) != on || Back(9, b) != back {
			t.Errorf("%d bytes: the room behind them counts", n)
		}
		clear(whole)
		if got := On(9, counted(1, n)); got != on {
			t.Errorf("%d bytes were kept: %x, not %x", n, got, on)
		}
	}
}
