package pulls

import (
	"cmp"
	"slices"
)

// fewestPlaces is how many places a ring may keep, however few flows it has.
const fewestPlaces = 4

// flow is one that is known.
type flow struct {
	id     uint64
	waits  int
	pulled int
}

// ring is flows, rising by id; behind the greatest one it goes on at the least one.
type ring []*flow

// place is where the flow of that id stands, or would stand, and whether it is there.
func (r ring) place(id uint64) (int, bool) {
	return slices.BinarySearchFunc(r, id, func(f *flow, id uint64) int { return cmp.Compare(f.id, id) })
}

// find is the flow of that id; nil, if there is none.
func (r ring) find(id uint64) *flow {
	at, ok := r.place(id)
	if !ok {
		return nil
	}
	return r[at]
}

// behind is the next flow behind that id, of a ring that has one.
func (r ring) behind(id uint64) *flow {
	at, _ := r.place(id + 1)
	return r[at%len(r)]
}

// with is the ring with f in it, which was not.
func (r ring) with(f *flow) ring {
	at, _ := r.place(f.id)
	return slices.Insert(r, at, f)
}

// without is the ring without f, which was in it. A ring that had many flows does not keep the room of all.
func (r ring) without(f *flow) ring {
	at, _ := r.place(f.id)
	r = slices.Delete(r, at, at+1)
	if cap(r) > fewestPlaces && len(r) <= cap(r)/4 {
		return append(make(ring, 0, cap(r)/2), r...)
	}
	return r
}

// sender is what is known of one peer's flows. Those that wait have a ring of their own, so that many that wait for
// none are not looked through for the next one.
type sender struct {
	known   ring
	waiting ring
	last    uint64 // that of the flow which got a pull last; a number, since that flow may be dropped
}

// meet lets a flow be known.
func (s *sender) meet(id uint64) *flow {
	f := &flow{id: id}
	s.known = s.known.with(f)
	return f
}

// want lets a flow wait for more.
func (s *sender) want(f *flow, more int) {
	if f.waits == 0 {
		s.waiting = s.waiting.with(f)
	}
	f.waits += more
}

// next gives the next flow a pull, of a peer one of whose flows waits.
func (s *sender) next() *flow {
	f := s.waiting.behind(s.last)
	s.last = f.id
	f.waits--
	f.pulled++
	if f.waits == 0 {
		s.waiting = s.waiting.without(f)
	}
	return f
}

// forget lets a flow be known no more.
func (s *sender) forget(f *flow) {
	s.known = s.known.without(f)
	if f.waits > 0 {
		s.waiting = s.waiting.without(f)
	}
}
