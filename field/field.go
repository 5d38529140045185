// Package field is layer 1: whole numbers in fields of one to eight bytes, and a scan that takes them off (01-field.md).
package field

import "slices"

const maxSize = 8

func isSize(size int) bool {
	return 1 <= size && size <= maxSize
}

// Fits tells whether x fits the size.
func Fits(size int, x uint64) bool {
	return isSize(size) && x>>(8*size) == 0
}

// FitsInt tells whether n, with its sign, fits the size.
func FitsInt(size int, n int64) bool {
	if !isSize(size) {
		return false
	}
	// A number that fits has nothing but copies of its sign from the field's highest bit on.
	signs := n >> (8*size - 1)
	return signs == 0 || signs == -1
}

// Put answers the bytes of b and, behind them, the field of x.
func Put(b []byte, size int, x uint64) []byte {
	// Never append to b itself: the room behind its end is the caller's.
	out := slices.Clone(b)
	if !isSize(size) {
		return out
	}
	for i := range size {
		out = append(out, byte(x>>(8*(size-1-i))))
	}
	return out
}

// Lay answers the bytes of b and, behind them, the field of n with its sign.
func Lay(b []byte, size int, n int64) []byte {
	// The conversion adds 2^64 to a number below 0; its lowest bytes are those of the size's power and it together.
	return Put(b, size, uint64(n))
}
