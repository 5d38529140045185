package wal

import (
	"bytes"
	"iter"

	"quiver/api"
	"quiver/field"
	"quiver/mark"
)

const letters = "quivrlog"

// The sizes of fields.
const (
	limitSize  = 4
	lengthSize = 4
	markSize   = 8
	numberSize = 8
)

// said is what a file says: a log's limit, and its parts, first the snapshot, then the records.
type said struct {
	most  int
	parts [][]byte
}

// cost is what all parts together cost.
func (l said) cost() int {
	sum := 0
	for _, part := range l.parts {
		sum += costOf(part)
	}
	return sum
}

// end is where the parts end in the file.
func (l said) end() int {
	return api.LogHead + l.cost()
}

func costOf(part []byte) int {
	return len(part) + api.LogEach
}

func isLimit(most int) bool {
	return api.MinLog <= most && most <= api.MaxLog
}

// fits tells why a part may not be where it may cost as much as there is room.
func fits(part []byte, room int) api.Errno {
	switch {
	case len(part) > api.MaxTx:
		return api.ErrLong
	case costOf(part) > room:
		return api.ErrFull
	}
	return api.OK
}

func head(most int) []byte {
	return mark.Seal(field.Put([]byte(letters), limitSize, uint64(most)))
}

// markOf is the mark of a part; its number counts, so that a frame is right at its place alone.
func markOf(number int, part []byte) uint64 {
	return mark.On(mark.Of(field.Put(nil, numberSize, uint64(number))), part)
}

func frame(number int, part []byte) []byte {
	b := field.Put(nil, lengthSize, uint64(len(part)))
	b = field.Put(b, markSize, markOf(number, part))
	return append(b, part...)
}

// limitOf answers the limit that a right head says at the beginning of b; 0, which is none, if there is no such head.
func limitOf(b []byte) int {
	s := field.Read(b[:min(len(b), api.LogHead)])
	s.Bytes(len(letters))
	most := int(s.Num(limitSize))
	if !isLimit(most) || !bytes.HasPrefix(b, head(most)) {
		return 0
	}
	return most
}

// frames tells the parts whose frames follow one another from the beginning of b on, as long as each is whole and right.
func frames(b []byte) iter.Seq[[]byte] {
	return func(yield func(part []byte) bool) {
		s := field.Read(b)
		for number := 0; ; number++ {
			length, sum := int(s.Num(lengthSize)), s.Num(markSize)
			part := s.Bytes(length)
			if s.Bad() || sum != markOf(number, part) || !yield(part) {
				return
			}
		}
	}
}

// hear answers what the bytes of a file say; ErrWal, if that is none.
func hear(b []byte) (said, api.Errno) {
	l := said{most: limitOf(b)}
	if l.most == 0 {
		return said{}, api.ErrWal
	}
	room := l.most
	for part := range frames(b[api.LogHead:]) {
		if fits(part, room) != api.OK {
			break
		}
		room -= costOf(part)
		l.parts = append(l.parts, part)
	}
	if len(l.parts) == 0 {
		return said{}, api.ErrWal
	}
	return l, api.OK
}
