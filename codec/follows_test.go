package codec

import (
	"bytes"
	"testing"

	"quiver/api"
)

// P7.4: there and back: what is taken from the bytes of something, and whatever stands behind them, is that, and as many bytes; less of them is too short.
func TestThereAndBack(t *testing.T) {
	for _, v := range goodVecs() {
		b, _ := Vec(v)
		for _, tail := range tails() {
			w, n, err := TakeVec(append(bytes.Clone(b), tail...))
			if err != api.OK || n != len(b) || !SameRow(api.Row{Vec: w}, api.Row{Vec: v}) {
				t.Errorf("%v, % X behind it: %v, %d, %d", v, tail, w, n, err)
			}
		}
		tooShort(t, b, ofVec)
	}
	for _, r := range goodRows() {
		b, _ := Row(r)
		for _, tail := range tails() {
			if s, n, err := TakeRow(append(bytes.Clone(b), tail...)); err != api.OK || n != len(b) || !SameRow(s, r) {
				t.Errorf("%v, % X behind it: %v, %d, %d", r, tail, s, n, err)
			}
		}
		tooShort(t, b, ofRow)
	}
	for _, v := range goodVersions() {
		b, _ := Version(v)
		for _, tail := range tails() {
			if w, n, err := TakeVersion(append(bytes.Clone(b), tail...)); err != api.OK || n != len(b) || !SameVersion(w, v) {
				t.Errorf("%v, % X behind it: %v, %d, %d", v, tail, w, n, err)
			}
		}
		tooShort(t, b, ofVersion)
	}
}

// tooShort holds less of the bytes of something, cut at each place.
func tooShort(t *testing.T, b []byte, place int) {
	t.Helper()
	if len(b) == 0 {
		t.Fatal("no bytes")
	}
	for end := range b {
		takesNot(t, b[:end], place, api.ErrShort)
	}
}

// P7.4: back and there: the bytes of what was taken are those that were taken.
func TestBackAndThere(t *testing.T) {
	seed := uint64(11)
	count := 0
	for _, place := range kinds() {
		for i := range 20000 {
			b := mixed(&seed, 40)
			b[place] = byte(1 + i%4)
			if place == ofVersion {
				copy(b, []byte{0, 0, 0, 0, 0})
				copy(b[8:], []byte{0, 0, 0})
			}
			if again, n, err := relaid(b, place); err == api.OK {
				count++
				if !bytes.Equal(again, b[:n]) {
					t.Errorf("% X: % X", b[:n], again)
				}
			}
		}
	}
	if count < 10000 {
		t.Errorf("just %d taken", count)
	}
}

// relaid are the bytes of what is taken of that kind, and how many were taken.
func relaid(b []byte, place int) ([]byte, int, api.Errno) {
	l, v, n, err := taken(b, place)
	if err != api.OK {
		return nil, 0, err
	}
	var again []byte
	switch place {
	case ofVec:
		again, err = Vec(v)
	case ofRow:
		again, err = Row(api.Row{Id: l[0], Vec: v})
	default:
		again, err = Version(api.Version{Begin: l[0], End: l[1], Vec: v})
	}
	return again, n, err
}

// P7.4: many that stand one behind the other are taken one by one.
func TestManyInARow(t *testing.T) {
	var b []byte
	var rows []api.Row
	var versions []api.Version
	for i, v := range goodVersions() {
		r := api.Row{Id: uint64(i) << 50, Vec: v.Vec}
		rows, versions = append(rows, r), append(versions, v)
		b = append(append(append(b, wordedRow(r)...), wordedVersion(v)...), wordedVec(v.Vec)...)
	}
	for i := range rows {
		r, n, err := TakeRow(b)
		if err != api.OK || !SameRow(r, rows[i]) {
			t.Fatalf("%d: %v, %d, not %v", i, r, err, rows[i])
		}
		v, k, err := TakeVersion(b[n:])
		if err != api.OK || !SameVersion(v, versions[i]) {
			t.Fatalf("%d: %v, %d, not %v", i, v, err, versions[i])
		}
		w, m, err := TakeVec(b[n+k:])
		if err != api.OK || !SameRow(api.Row{Vec: w}, api.Row{Vec: v.Vec}) {
			t.Fatalf("%d: %v, %d, not %v", i, w, err, v.Vec)
		}
		b = b[n+k+m:]
	}
	if len(b) != 0 {
		t.Errorf("%d bytes are left", len(b))
	}
}

// P7.4, R5: the same arguments have the same answers, whatever was asked between.
func TestAskedAgain(t *testing.T) {
	for _, v := range goodVecs() {
		first := laid(t, v)
		for _, bad := range badVecs() {
			Vec(bad)
		}
		TakeVersion(bytes.Repeat([]byte{255}, 40))
		TakeRow(nil)
		for i, b := range laid(t, v) {
			if !bytes.Equal(b, first[i]) {
				t.Errorf("%v: % X, and then % X", v, first[i], b)
			}
			takes(t, b, kinds()[i])
		}
	}
}
