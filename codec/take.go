package codec

import (
	"quiver/api"
	"quiver/field"
	"quiver/vec"
)

// longest is how many bytes a version of MaxDim components has; nothing else has more.
const longest = 2*numberSize + countSize + api.MaxDim*componentSize

// TakeVec answers the vector with which b begins, and how many bytes it has.
func TakeVec(b []byte) ([]int32, int, api.Errno) {
	return take(b, vec.Check, func(r reader) []int32 {
		return r.vec()
	})
}

// TakeRow answers the row with which b begins, and how many bytes it has.
func TakeRow(b []byte) (api.Row, int, api.Errno) {
	return take(b, CheckRow, func(r reader) api.Row {
		return api.Row{Id: r.Num(numberSize), Vec: r.vec()}
	})
}

// TakeVersion answers the version with which b begins, and how many bytes it has.
func TakeVersion(b []byte) (api.Version, int, api.Errno) {
	return take(b, CheckVersion, func(r reader) api.Version {
		return api.Version{Begin: r.Num(numberSize), End: r.Num(numberSize), Vec: r.vec()}
	})
}

// take answers what b begins with, as read tells it, and how many bytes it has.
func take[T any](b []byte, check func(x T) api.Errno, read func(r reader) T) (T, int, api.Errno) {
	// A scan copies what it goes over: of many things in a row each one would copy all that stand behind it.
	r := reader{field.Read(b[:min(len(b), longest)])}
	x := read(r)
	var none T
	switch {
	case r.Bad():
		return none, 0, api.ErrShort
	case check(x) != api.OK:
		return none, 0, api.ErrCode
	}
	return x, r.Place(), api.OK
}

// reader is a scan that takes vectors off, too.
type reader struct {
	*field.Scan
}

// vec takes a vector off. Behind a count of which no vector has so many components it reads nothing: what comes of it may not be, however few bytes are left.
func (r reader) vec() []int32 {
	count := int(r.Num(countSize))
	if count > api.MaxDim {
		return nil
	}
	var v []int32
	for range count {
		v = append(v, int32(r.Int(componentSize)))
	}
	return v
}
