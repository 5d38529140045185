package writes

import (
	"slices"

	"quiver/api"
	"quiver/vec"
)

// Put answers l with that vector written of the row.
func Put(l []api.Write, coll int, r api.Row) ([]api.Write, api.Errno) {
	if err := refuse(l, coll); err != api.OK {
		return nil, err
	}
	if err := vec.Check(r.Vec); err != api.OK {
		return nil, err
	}
	return laid(l, api.Write{Coll: coll, Id: r.Id, Vec: r.Vec})
}

// Del answers l with the row of k Gone; without it, if just the transaction has it.
func Del(l []api.Write, k api.Write, there bool) ([]api.Write, api.Errno) {
	if err := refuse(l, k.Coll); err != api.OK {
		return nil, err
	}
	place, written := slices.BinarySearchFunc(l, k, order)
	switch {
	case written && l[place].Gone, !written && !there:
		return nil, api.ErrNone
	case !there:
		return changed(l, func(l []api.Write) []api.Write {
			return slices.Delete(l, place, place+1)
		}), api.OK
	}
	return laid(l, api.Write{Coll: k.Coll, Id: k.Id, Gone: true})
}

// laid is l with w, in the place of what was written of its row; ErrFull, if nothing was, and there is no room.
func laid(l []api.Write, w api.Write) ([]api.Write, api.Errno) {
	place, written := slices.BinarySearchFunc(l, w, order)
	behind := place
	if written {
		behind++
	} else if len(l) == api.MaxWrites {
		return nil, api.ErrFull
	}
	return changed(l, func(l []api.Write) []api.Write {
		return slices.Replace(l, place, behind, owned(w))
	}), api.OK
}

// changed is what becomes of a copy of l.
func changed(l []api.Write, change func(l []api.Write) []api.Write) []api.Write {
	return change(copied(l))
}

// copied is l with memory of its own, each vector too.
func copied(l []api.Write) []api.Write {
	l = slices.Clone(l)
	for i, w := range l {
		l[i] = owned(w)
	}
	return l
}

// owned is w with a vector of its own; with none, if that has no components.
func owned(w api.Write) api.Write {
	w.Vec = append([]int32(nil), w.Vec...)
	return w
}
