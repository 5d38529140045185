package codec

import (
	"bytes"
	"encoding/binary"
	"math"
	"slices"
	"testing"

	"quiver/api"
)

// Where the vector of each kind begins.
const (
	ofVec     = 0
	ofRow     = 8
	ofVersion = 16
)

// numbered are the numbers of eight bytes ahead of the place.
func numbered(b []byte, place int) []uint64 {
	var l []uint64
	for i := 0; i < place; i += 8 {
		l = append(l, binary.BigEndian.Uint64(b[i:]))
	}
	return l
}

// wordedTake is what b begins with as the chapter words it: the numbers ahead of the place, and the vector from there on.
func wordedTake(b []byte, place int) ([]uint64, []int32, int, api.Errno) {
	if len(b) > place && (b[place] == 0 || b[place] > 4) {
		return nil, nil, 0, api.ErrCode
	}
	if len(b) <= place || len(b) < place+1+4*int(b[place]) {
		return nil, nil, 0, api.ErrShort
	}
	l := numbered(b, place)
	if place == ofVersion && !(span{l[0], l[1]}).mayBe() {
		return nil, nil, 0, api.ErrCode
	}
	var v []int32
	for i := range int(b[place]) {
		x := int64(binary.BigEndian.Uint32(b[place+1+4*i:]))
		if x >= 1<<31 {
			x -= 1 << 32
		}
		if x > most || x < least {
			return nil, nil, 0, api.ErrCode
		}
		v = append(v, int32(x))
	}
	return l, v, place + 1 + 4*len(v), api.OK
}

// taken is what the call of that kind answers, in the form of wordedTake.
func taken(b []byte, place int) ([]uint64, []int32, int, api.Errno) {
	switch place {
	case ofVec:
		v, n, err := TakeVec(b)
		return nil, v, n, err
	case ofRow:
		r, n, err := TakeRow(b)
		return []uint64{r.Id}, r.Vec, n, err
	default:
		v, n, err := TakeVersion(b)
		return []uint64{v.Begin, v.End}, v.Vec, n, err
	}
}

// takes holds what is taken of that kind against the chapter's words.
func takes(t *testing.T, b []byte, place int) {
	t.Helper()
	l, v, n, want := wordedTake(b, place)
	if want != api.OK {
		takesNot(t, b, place, want)
		return
	}
	m, w, k, err := taken(b, place)
	if err != api.OK || k != n || !slices.Equal(m, l) || !slices.Equal(w, v) {
		t.Errorf("% X, a vector at %d: %v %v, %d, %d, not %v %v, %d", b, place, m, w, k, err, l, v, n)
	}
}

// takesNot holds what is taken of that kind against an error, with nothing beside it.
func takesNot(t *testing.T, b []byte, place int, want api.Errno) {
	t.Helper()
	m, w, k, err := taken(b, place)
	if err != want || k != 0 || len(w) != 0 || slices.ContainsFunc(m, func(x uint64) bool { return x != 0 }) {
		t.Errorf("% X, a vector at %d: %v %v, %d, %d, not %d", b, place, m, w, k, err, want)
	}
}

// tails are bytes that may stand behind others: none, few, and more than all that anything has.
func tails() [][]byte {
	return [][]byte{nil, {0}, {255}, {1, 0, 0, 0, 5}, bytes.Repeat([]byte{255}, 8), make([]byte, 100)}
}

// samples are bytes of that kind that may be.
func samples(place int) [][]byte {
	var l [][]byte
	switch place {
	case ofVec:
		for _, v := range goodVecs() {
			l = append(l, wordedVec(v))
		}
	case ofRow:
		for _, r := range goodRows() {
			l = append(l, wordedRow(r))
		}
	default:
		for _, v := range goodVersions() {
			l = append(l, wordedVersion(v))
		}
	}
	return l
}

// kinds are the places of all three.
func kinds() []int {
	return []int{ofVec, ofRow, ofVersion}
}

// P7.3: the chapter's examples.
func TestTakeExamples(t *testing.T) {
	takesNot(t, read("01 000000"), ofVec, api.ErrShort)
	takesNot(t, read("00"), ofVec, api.ErrCode)
	takesNot(t, read("05 00"), ofVec, api.ErrCode)
	takesNot(t, read("01 7FFFFFFF"), ofVec, api.ErrCode)
}

// P7.3: bytes that are whole, with none and with others behind them.
func TestTakeWhole(t *testing.T) {
	for _, place := range kinds() {
		for _, b := range samples(place) {
			for _, tail := range tails() {
				whole := slices.Concat(b, tail)
				if _, _, n, err := wordedTake(whole, place); n != len(b) || err != api.OK {
					t.Fatalf("% X: %d, %d", whole, n, err)
				}
				takes(t, whole, place)
			}
		}
	}
}

// P7.3: what is taken, written out.
func TestTakeEdges(t *testing.T) {
	if v, n, err := TakeVec(read("02 00000001 FFFFFFFF 07")); err != api.OK || n != 9 || !slices.Equal(v, []int32{1, -1}) {
		t.Errorf("%v, %d, %d", v, n, err)
	}
	if v, n, err := TakeVec(read("04 3FFFFFFF C0000001 00000000 FEFDFCFC")); err != api.OK || n != 17 || !slices.Equal(v, []int32{1<<30 - 1, 1 - 1<<30, 0, -0x01020304}) {
		t.Errorf("%v, %d, %d", v, n, err)
	}
	if r, n, err := TakeRow(read("0000000000000102 01 00000005 01")); err != api.OK || n != 13 || !SameRow(r, api.Row{Id: 258, Vec: []int32{5}}) {
		t.Errorf("%v, %d, %d", r, n, err)
	}
	if r, n, err := TakeRow(read("FFFFFFFFFFFFFFFF 01 FFFFFFFB")); err != api.OK || n != 13 || !SameRow(r, api.Row{Id: math.MaxUint64, Vec: []int32{-5}}) {
		t.Errorf("%v, %d, %d", r, n, err)
	}
	if v, n, err := TakeVersion(read("0000000000000102 0000010000000000 01 00000005 FF FF")); err != api.OK || n != 21 || !SameVersion(v, api.Version{Begin: 258, End: 1 << 40, Vec: []int32{5}}) {
		t.Errorf("%v, %d, %d", v, n, err)
	}
	if v, n, err := TakeVersion(read("0000010000000000 0000000000000000 01 00000005")); err != api.OK || n != 21 || !SameVersion(v, api.Version{Begin: 1 << 40, Vec: []int32{5}}) {
		t.Errorf("%v, %d, %d", v, n, err)
	}
}

// P7.3: no bytes, and whole ones that are cut at each place; what stands in the room behind the end does not count.
func TestTakeShort(t *testing.T) {
	for _, place := range kinds() {
		takesNot(t, nil, place, api.ErrShort)
		takesNot(t, []byte{}, place, api.ErrShort)
		for _, b := range samples(place) {
			for end := range b {
				takesNot(t, b[:end], place, api.ErrShort)
			}
		}
	}
}

// oddCounts are those of which no vector has so many components.
func oddCounts() []byte {
	return []byte{0, 5, 6, 7, 8, 16, 127, 128, 129, 254, 255}
}

// P7.3: such a count goes ahead of bytes that are too few, as soon as it is there: with nothing behind it, with less than so many components, with as many, with more.
func TestTakeOddCounts(t *testing.T) {
	heads := map[int][][]byte{
		ofVec:     {nil},
		ofRow:     {make([]byte, 8), bytes.Repeat([]byte{255}, 8)},
		ofVersion: {read("0000000000000001 0000000000000000"), read("0000010000000000 0000000000000000"), make([]byte, 16), bytes.Repeat([]byte{255}, 16)},
	}
	for _, place := range kinds() {
		for _, head := range heads[place] {
			for _, count := range oddCounts() {
				for _, n := range []int{0, 1, 3, 4, 5, 16, 17, 4*int(count) - 1, 4 * int(count), 4*int(count) + 1, 2000} {
					for _, x := range []byte{0, 255} {
						b := slices.Concat(head, []byte{count}, bytes.Repeat([]byte{x}, max(n, 0)))
						takesNot(t, b, place, api.ErrCode)
					}
				}
			}
			for end := range place {
				takesNot(t, head[:end], place, api.ErrShort)
			}
		}
	}
}

// refused holds bytes that are whole but may not be: ErrCode, whatever stands behind them; too few of them are too few.
func refused(t *testing.T, b []byte, place int) {
	t.Helper()
	for _, tail := range tails() {
		takesNot(t, slices.Concat(b, tail), place, api.ErrCode)
	}
	for end := range b {
		takesNot(t, b[:end], place, api.ErrShort)
	}
}

// P7.3: components that may not be, at each place.
func TestTakeBadComponents(t *testing.T) {
	for _, v := range badVecs() {
		if len(v) == 0 || len(v) > api.MaxDim {
			continue
		}
		refused(t, wordedVec(v), ofVec)
		for _, id := range ids() {
			refused(t, wordedRow(api.Row{Id: id, Vec: v}), ofRow)
		}
		refused(t, wordedVersion(api.Version{Begin: 1, Vec: v}), ofVersion)
		refused(t, wordedVersion(api.Version{Begin: 1, End: 1 << 40, Vec: v}), ofVersion)
		refused(t, wordedVersion(api.Version{Begin: 0, Vec: v}), ofVersion)
	}
}

// P7.3: a Begin or an End that may not be.
func TestTakeBadSpans(t *testing.T) {
	_, bad := spans()
	for _, v := range versionsOf(bad, [][]int32{{5}, {-1, 2}, {1, 2, 3}, {most, least, 0, -1}}) {
		refused(t, wordedVersion(v), ofVersion)
	}
}

// mixed are n bytes that hang on the seed, most of them 0, 255, or a byte of a component at its bound.
func mixed(seed *uint64, n int) []byte {
	few := []byte{0, 0, 0, 1, 1, 255, 255, 0x3f, 0x40, 0xc0, 0xbf, 4}
	b := make([]byte, n)
	for i := range b {
		*seed = *seed*6364136223846793005 + 1442695040888963407
		x := *seed >> 33
		b[i] = byte(x)
		if x>>8%8 != 0 {
			b[i] = few[x%uint64(len(few))]
		}
	}
	return b
}

// P7.3: all kinds of bytes, of each length, against the chapter's words.
func TestTakeAsWorded(t *testing.T) {
	seed := uint64(7)
	tellings := map[api.Errno]int{}
	for _, place := range kinds() {
		for n := range 45 {
			for i := range 400 {
				b := mixed(&seed, n)
				if n > place && i%8 != 0 {
					b[place] = byte(i % 6)
				}
				if n > 8 && place == ofVersion && i%4 != 0 {
					copy(b, []byte{0, 0, 0, 0, 0, 0, 0, byte(i % 3)})
					copy(b[8:], []byte{0, 0, byte(i % 16 / 15), 0, 0, 0, 0})
				}
				_, _, _, err := wordedTake(b, place)
				tellings[err]++
				takes(t, b, place)
			}
		}
	}
	for _, err := range []api.Errno{api.OK, api.ErrShort, api.ErrCode} {
		if tellings[err] < 1000 {
			t.Errorf("%d: just %d times", err, tellings[err])
		}
	}
}

// P7.3: each count, with each number of bytes behind it.
func TestTakeOfEachCount(t *testing.T) {
	for _, place := range kinds() {
		head := read("0000000000000001 0000000000000002")[:place]
		for count := range 256 {
			for n := range 22 {
				takes(t, slices.Concat(head, []byte{byte(count)}, make([]byte, n)), place)
			}
		}
	}
}

// P7.3, R3: the bytes and the room behind their end stay as they are; what is taken is new memory, each time.
func TestTakeNewMemory(t *testing.T) {
	for _, place := range kinds() {
		for _, sample := range samples(place) {
			whole := append(bytes.Clone(sample), 1, 2, 3, 4, 5, 6, 7, 8)
			was := bytes.Clone(whole)
			b := whole[:len(sample)]
			_, first, _, _ := taken(b, place)
			_, again, _, _ := taken(b, place)
			if !bytes.Equal(whole, was) {
				t.Fatalf("% X was changed: % X", was, whole)
			}
			want := slices.Clone(first)
			clear(again[:cap(again)])
			clear(whole)
			if !slices.Equal(first, want) {
				t.Fatalf("% X: what was taken shares memory", was)
			}
			clear(first[:cap(first)])
			takes(t, was, place)
		}
	}
}
