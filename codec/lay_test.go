package codec

import (
	"bytes"
	"encoding/binary"
	"encoding/hex"
	"math"
	"slices"
	"strings"
	"testing"

	"quiver/api"
)

// wordedVec are the bytes of a vector as the chapter words them; of a component below 0 that and 2^32 together.
func wordedVec(v []int32) []byte {
	b := []byte{byte(len(v))}
	for _, component := range v {
		x := int64(component)
		if x < 0 {
			x += 1 << 32
		}
		b = append(b, byte(x/(1<<24)), byte(x/(1<<16)%256), byte(x/256%256), byte(x%256))
	}
	return b
}

func wordedRow(r api.Row) []byte {
	return append(binary.BigEndian.AppendUint64(nil, r.Id), wordedVec(r.Vec)...)
}

func wordedVersion(v api.Version) []byte {
	b := binary.BigEndian.AppendUint64(nil, v.Begin)
	return append(binary.BigEndian.AppendUint64(b, v.End), wordedVec(v.Vec)...)
}

// is holds an answer against the bytes that it has to be.
func is(t *testing.T, name string, of any, got []byte, err api.Errno, want []byte) {
	t.Helper()
	if err != api.OK || !bytes.Equal(got, want) {
		t.Errorf("%s(%v): % X, %d, not % X", name, of, got, err, want)
	}
}

// isNot holds an answer against an error, with nothing beside it.
func isNot(t *testing.T, name string, of any, got []byte, err, want api.Errno) {
	t.Helper()
	if err != want || len(got) != 0 {
		t.Errorf("%s(%v): % X, %d, not %d", name, of, got, err, want)
	}
}

// read are the bytes that stand in a text to the base 16.
func read(text string) []byte {
	b, err := hex.DecodeString(strings.ReplaceAll(text, " ", ""))
	if err != nil {
		panic(err)
	}
	return b
}

// P7.2: bytes written out; the chapter's examples first.
func TestBytesEdges(t *testing.T) {
	for _, c := range []struct {
		v    []int32
		want string
	}{
		{[]int32{1, -1}, "02 00000001 FFFFFFFF"},
		{[]int32{5}, "01 00000005"},
		{[]int32{0}, "01 00000000"},
		{[]int32{-2}, "01 FFFFFFFE"},
		{[]int32{-256}, "01 FFFFFF00"},
		{[]int32{0x01020304}, "01 01020304"},
		{[]int32{-0x01020304}, "01 FEFDFCFC"},
		{[]int32{1<<30 - 1}, "01 3FFFFFFF"},
		{[]int32{1 - 1<<30}, "01 C0000001"},
		{[]int32{1, 2, 3}, "03 00000001 00000002 00000003"},
		{[]int32{4, -3, 2, -1}, "04 00000004 FFFFFFFD 00000002 FFFFFFFF"},
	} {
		b, err := Vec(c.v)
		is(t, "Vec", c.v, b, err, read(c.want))
		for _, id := range ids() {
			r := api.Row{Id: id, Vec: c.v}
			b, err = Row(r)
			is(t, "Row", r, b, err, append(binary.BigEndian.AppendUint64(nil, id), read(c.want)...))
		}
	}
	for _, c := range []struct {
		id   uint64
		want string
	}{
		{258, "0000000000000102 01 00000005"},
		{0, "0000000000000000 01 00000005"},
		{0x0102030405060708, "0102030405060708 01 00000005"},
		{1 << 63, "8000000000000000 01 00000005"},
		{math.MaxUint64, "FFFFFFFFFFFFFFFF 01 00000005"},
	} {
		b, err := Row(api.Row{Id: c.id, Vec: []int32{5}})
		is(t, "Row", c.id, b, err, read(c.want))
	}
	for _, c := range []struct {
		begin, end uint64
		want       string
	}{
		{1, 0, "0000000000000001 0000000000000000 02 00000007 FFFFFFF8"},
		{1, 2, "0000000000000001 0000000000000002 02 00000007 FFFFFFF8"},
		{258, 0x0102030405, "0000000000000102 0000000102030405 02 00000007 FFFFFFF8"},
		{1<<40 - 1, 1 << 40, "000000FFFFFFFFFF 0000010000000000 02 00000007 FFFFFFF8"},
		{1 << 40, 0, "0000010000000000 0000000000000000 02 00000007 FFFFFFF8"},
	} {
		b, err := Version(api.Version{Begin: c.begin, End: c.end, Vec: []int32{7, -8}})
		is(t, "Version", c, b, err, read(c.want))
	}
}

// P7.2: the bytes of all that may be, against the chapter's words.
func TestBytesAsWorded(t *testing.T) {
	for _, v := range goodVecs() {
		b, err := Vec(v)
		is(t, "Vec", v, b, err, wordedVec(v))
	}
	for _, r := range goodRows() {
		b, err := Row(r)
		is(t, "Row", r, b, err, wordedRow(r))
	}
	for _, v := range goodVersions() {
		b, err := Version(v)
		is(t, "Version", v, b, err, wordedVersion(v))
	}
}

// P7.2: no bytes of what may not be.
func TestBytesOfBad(t *testing.T) {
	for _, v := range badVecs() {
		b, err := Vec(v)
		isNot(t, "Vec", v, b, err, api.ErrVec)
	}
	for _, r := range badRows() {
		b, err := Row(r)
		isNot(t, "Row", r, b, err, api.ErrRow)
	}
	for _, v := range badVersions() {
		b, err := Version(v)
		isNot(t, "Version", v, b, err, api.ErrVersion)
	}
}

// laid are the bytes of a vector, and of a row and a version that have it, as the calls answer them.
func laid(t *testing.T, v []int32) [][]byte {
	t.Helper()
	b, err := Vec(v)
	r, rowErr := Row(api.Row{Id: 3, Vec: v})
	w, versionErr := Version(api.Version{Begin: 4, End: 9, Vec: v})
	if err != api.OK || rowErr != api.OK || versionErr != api.OK {
		t.Fatalf("%v: %d, %d, %d", v, err, rowErr, versionErr)
	}
	return [][]byte{b, r, w}
}

// P7.2, R3: the vector and the room behind its end stay as they are, and are not kept; the answers are new memory, each time.
func TestBytesNewMemory(t *testing.T) {
	for _, good := range goodVecs() {
		v := behind(good)
		whole := v[:len(v)+5]
		was := slices.Clone(whole)
		first, again := laid(t, v), laid(t, v)
		if !slices.Equal(whole, was) {
			t.Errorf("%v was changed: %v", was, whole)
		}
		clear(whole)
		for i, b := range first {
			if !bytes.Equal(b, again[i]) {
				t.Errorf("%v: % X, and then % X", good, b, again[i])
			}
			want := bytes.Clone(b)
			clear(again[i][:cap(again[i])])
			if !bytes.Equal(b, want) {
				t.Errorf("%v: two answers share memory", good)
			}
		}
	}
}
