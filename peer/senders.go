package peer

import (
	"bytes"
	"slices"

	"mizzen/api"
	"mizzen/ids"
	"mizzen/table"
)

// Out is a message that is sent.
type Out struct {
	ID    uint64
	Dst   int
	Data  []byte
	State int
	Acked bool
}

// Senders is what one host sends.
type Senders struct {
	maxMsg int
	giver  *ids.Giver
	kept   *table.Table[Out]     // by their ids alone: no two have the same one, whomever they are for
	open   [api.MaxHosts]numbers // the ids of those that are pending, by whom they are for
}

// NewSenders is an empty one.
func NewSenders(most, maxMsg int, last uint64) (*Senders, api.Errno) {
	giver, e := ids.NewGiver(last)
	if e != api.OK || !mayKeep(most, maxMsg) {
		return nil, api.ErrArg
	}
	kept, e := table.New[Out](most)
	return &Senders{maxMsg: maxMsg, giver: giver, kept: kept}, e
}

// made tells whether it is one that NewSenders made: none else has room.
func (s *Senders) made() bool {
	return s != nil && s.kept != nil
}

// find is one as it is kept: its bytes may not leave the package.
func (s *Senders) find(id uint64) (Out, bool) {
	if !s.made() {
		return Out{}, false
	}
	return s.kept.Get(table.Key{ID: id})
}

// Submit begins one.
func (s *Senders) Submit(dst int, data []byte) (uint64, api.Errno) {
	if !isHost(dst) {
		return 0, api.ErrArg
	}
	if !s.made() {
		return 0, api.ErrFull
	}
	if len(data) > s.maxMsg {
		return 0, api.ErrBig
	}
	// Asked ahead of the id, which would be gone if the table told it.
	if s.kept.Len() >= s.kept.Most() {
		return 0, api.ErrFull
	}
	id, e := s.giver.Next()
	if e != api.OK {
		return 0, e
	}
	s.open[dst] = s.open[dst].with(id)
	return id, s.kept.Put(table.Key{ID: id}, Out{ID: id, Dst: dst, Data: bytes.Clone(data), State: api.SPending})
}

// Get is one.
func (s *Senders) Get(id uint64) (Out, bool) {
	o, ok := s.find(id)
	o.Data = bytes.Clone(o.Data)
	return o, ok
}

// End ends one.
func (s *Senders) End(id uint64, state int) api.Errno {
	o, ok := s.find(id)
	if !ok {
		return api.ErrNone
	}
	switch state {
	case api.SAcked, api.SFailed, api.SCancelled:
	default:
		return api.ErrArg
	}
	if o.State != api.SPending {
		return api.ErrLate
	}
	o.State, o.Acked = state, state == api.SAcked
	s.open[o.Dst] = s.open[o.Dst].without(id)
	return s.kept.Set(table.Key{ID: id}, o)
}

// Forget forgets one.
func (s *Senders) Forget(id uint64) api.Errno {
	o, ok := s.find(id)
	if !ok {
		return api.ErrNone
	}
	if o.State == api.SPending {
		return api.ErrArg
	}
	return s.kept.Delete(table.Key{ID: id})
}

// Open is those that did not end.
func (s *Senders) Open() []uint64 {
	if !s.made() {
		return nil
	}
	var all []uint64
	for _, open := range s.open {
		all = append(all, open...)
	}
	slices.Sort(all)
	return all
}

// Lowest is below which all ended.
func (s *Senders) Lowest(dst int) uint64 {
	if !s.made() {
		return 1
	}
	if isHost(dst) && len(s.open[dst]) > 0 {
		return s.open[dst][0]
	}
	return s.giver.Last() + 1
}

// Len is how many are there.
func (s *Senders) Len() int {
	if !s.made() {
		return 0
	}
	return s.kept.Len()
}
