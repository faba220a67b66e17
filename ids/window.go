package ids

import (
	"slices"

	"mizzen/api"
)

// mostRecords is the greatest number of records that a window may have.
const mostRecords = 100000

// Window is which have ended.
type Window struct {
	most    int
	mark    uint64
	records []uint64 // those from the mark on that have ended, rising; the mark itself never has
	wasted  int      // how many places records' memory has at most ahead of the first one
}

// New is one of which none has.
func New(most int) (*Window, api.Errno) {
	if most < 1 || most > mostRecords {
		return nil, api.ErrArg
	}
	return &Window{most: most, mark: 1}, api.OK
}

// made tells whether it is a window that New made: none else has room.
func (w *Window) made() bool {
	return w != nil && w.most > 0
}

// find is where the record of id stands, or would stand, and whether id has ended.
func (w *Window) find(id uint64) (int, bool) {
	if id < w.mark {
		return 0, true
	}
	return slices.BinarySearch(w.records, id)
}

// Done ends one.
func (w *Window) Done(id uint64) api.Errno {
	if id < 1 || id > greatest {
		return api.ErrArg
	}
	if !w.made() {
		return api.ErrFull
	}
	at, ended := w.find(id)
	switch {
	case ended:
		return api.OK
	case id == w.mark:
		// It needs no record, so that it ends even where there is room for none.
		w.goOn(id + 1)
		return api.OK
	case len(w.records) >= w.most:
		return api.ErrFull
	}
	w.records = slices.Insert(w.records, at, id)
	return api.OK
}

// Is tells whether one has ended.
func (w *Window) Is(id uint64) bool {
	if !w.made() || id < 1 {
		return false
	}
	_, ended := w.find(id)
	return ended
}

// Retire ends all below one.
func (w *Window) Retire(below uint64) int {
	to := min(below, greatest+1)
	if !w.made() || to <= w.mark {
		return 0
	}
	return w.goOn(to)
}

// goOn lets the mark go on to one, and over all from there on that have ended. It tells how many records went.
func (w *Window) goOn(to uint64) int {
	went, _ := slices.BinarySearch(w.records, to)
	for went < len(w.records) && w.records[went] == to {
		went++
		to++
	}
	w.mark = to
	w.drop(went)
	return went
}

// drop lets the first n records go.
func (w *Window) drop(n int) {
	w.records = w.records[n:]
	w.wasted += n
	if w.wasted > len(w.records) {
		// Those that are left move only once they are the fewer, so that a step costs little, and little is kept for nothing.
		w.records = append([]uint64(nil), w.records...)
		w.wasted = 0
	}
}

// Mark is below which all have.
func (w *Window) Mark() uint64 {
	if !w.made() {
		return 0
	}
	return w.mark
}

// Len is how many records.
func (w *Window) Len() int {
	if !w.made() {
		return 0
	}
	return len(w.records)
}

// Lowest is below which all may be retired.
func (w *Window) Lowest(open []uint64, next uint64) uint64 {
	if !w.made() {
		return 0
	}
	least := next
	for _, id := range open {
		least = min(least, id)
	}
	return least
}
