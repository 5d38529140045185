package mark

import (
	"slices"

	"quiver/api"
	"quiver/field"
)

// size is how many bytes a mark has as a field.
const size = 8

// Seal answers the bytes and, behind them, their mark.
func Seal(b []byte) []byte {
	return field.Put(b, size, Of(b))
}

// Open answers what stands ahead of the mark in sealed bytes, if it has that mark.
func Open(b []byte) ([]byte, api.Errno) {
	n := len(b) - size
	if n < 0 {
		return nil, api.ErrShort
	}
	ahead := b[:n:n]
	if field.Read(b[n:]).Num(size) != Of(ahead) {
		return nil, api.ErrMark
	}
	return slices.Clone(ahead), api.OK
}
