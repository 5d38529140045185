package wal

import "slices"

// Snapshot tells the snapshot's bytes.
func (w *Wal) Snapshot() []byte {
	if w == nil {
		return nil
	}
	return slices.Clone(w.parts[0])
}

// All tells the records' bytes, in order.
func (w *Wal) All() [][]byte {
	if w == nil {
		return nil
	}
	var records [][]byte
	for _, record := range w.parts[1:] {
		records = append(records, slices.Clone(record))
	}
	return records
}

// Len tells how many records there are.
func (w *Wal) Len() int {
	if w == nil {
		return 0
	}
	return len(w.parts) - 1
}

// Left tells how much of the limit is left.
func (w *Wal) Left() int {
	if w == nil {
		return 0
	}
	return w.most - w.cost()
}

// Most tells the limit.
func (w *Wal) Most() int {
	if w == nil {
		return 0
	}
	return w.most
}

// Broken tells whether the log is broken.
func (w *Wal) Broken() bool {
	return w != nil && w.broken
}
