package mark

import (
	"bytes"
	"testing"
)

// differ holds Place against the place that has to be told, both ways round.
func differ(t *testing.T, a, b []byte, want int) {
	t.Helper()
	if got := Place(a, b); got != want {
		t.Errorf("Place(%v, %v): %d, not %d", a, b, got, want)
	}
	if got := Place(b, a); got != want {
		t.Errorf("Place(%v, %v): %d, not %d", b, a, got, want)
	}
}

// P3.3: both empty, one empty, and the chapter's examples.
func TestPlaceEdges(t *testing.T) {
	differ(t, nil, nil, -1)
	differ(t, nil, []byte{}, -1)
	differ(t, []byte{}, []byte{}, -1)
	differ(t, nil, []byte{0}, 0)
	differ(t, []byte{}, []byte{1, 2}, 0)
	differ(t, []byte{1, 2}, []byte{1, 3}, 1)
	differ(t, []byte{1}, []byte{1, 2}, 1)
	differ(t, []byte{1}, []byte{1}, -1)
	differ(t, []byte{0}, []byte{255}, 0)
	differ(t, []byte{0}, []byte{0, 0}, 1)
}

// P3.3: the same bytes; a beginning of them; and one other byte at each place, the first and the last one too, whatever comes behind it.
func TestPlaceEverywhere(t *testing.T) {
	for _, n := range []int{1, 2, 7, 8, 9, 64, 300} {
		a := counted(5, n)
		differ(t, a, bytes.Clone(a), -1)
		differ(t, a, a, -1)
		for i := range n {
			differ(t, a, a[:i], i)
			one := bytes.Clone(a)
			one[i]++
			differ(t, a, one, i)
			differ(t, a, one[:i+1], i)
			differ(t, a, append(bytes.Clone(one), 1, 2), i)
			differ(t, a[:i+1], one, i)
			all := bytes.Clone(a)
			for j := range all[i:] {
				all[i+j] ^= 0x80
			}
			differ(t, a, all, i)
		}
	}
}

// P3.3: the first one of two places.
func TestPlaceFirstOfTwo(t *testing.T) {
	a := counted(0, 20)
	for i := range a {
		for j := range a {
			b := bytes.Clone(a)
			b[i] ^= 1
			b[j] ^= 2
			differ(t, a, b, min(i, j))
		}
	}
}

// P3.3, R3: neither is changed, and the room behind their ends does not count.
func TestPlaceTouchesNothing(t *testing.T) {
	a, b := counted(1, 20), counted(1, 20)
	for i := range b[10:] {
		b[10+i] = 0
	}
	whole := bytes.Clone(b)
	differ(t, a[:10], b[:10], -1)
	differ(t, a[:5], b[:9], 5)
	differ(t, a[:12], b[:12], 10)
	if !bytes.Equal(a, counted(1, 20)) || !bytes.Equal(b, whole) {
		t.Errorf("changed: %v, %v", a, b)
	}
}
