package codec

import (
	"quiver/api"
	"quiver/field"
	"quiver/vec"
)

// How many bytes fields have: of how many components there are, of a component, of an Id or a timestamp.
const (
	countSize     = 1
	componentSize = 4
	numberSize    = 8
)

// Vec answers the bytes of v.
func Vec(v []int32) ([]byte, api.Errno) {
	if err := vec.Check(v); err != api.OK {
		return nil, err
	}
	return layVec(nil, v), api.OK
}

// Row answers the bytes of r.
func Row(r api.Row) ([]byte, api.Errno) {
	if err := CheckRow(r); err != api.OK {
		return nil, err
	}
	return layVec(lay(nil, numberSize, r.Id), r.Vec), api.OK
}

// Version answers the bytes of v.
func Version(v api.Version) ([]byte, api.Errno) {
	if err := CheckVersion(v); err != api.OK {
		return nil, err
	}
	return layVec(lay(nil, numberSize, v.Begin, v.End), v.Vec), api.OK
}

// layVec answers the bytes of b and, behind them, those of v.
func layVec(b []byte, v []int32) []byte {
	return lay(lay(b, countSize, len(v)), componentSize, v...)
}

// lay answers the bytes of b and, behind them, a field of each number of l.
func lay[T int | int32 | uint64](b []byte, size int, l ...T) []byte {
	for _, x := range l {
		// A uint64 that is below 0 as an int64 has the same eight bytes.
		b = field.Lay(b, size, int64(x))
	}
	return b
}
