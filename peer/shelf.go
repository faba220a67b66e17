package peer

import (
	"mizzen/api"
	"mizzen/table"
)

// shelf is things by whose they are and by their ids: a table, and beside it the ids of each host in order, so that those below one are found without a walk over all.
type shelf[V any] struct {
	things *table.Table[V]
	ids    [api.MaxHosts]numbers
}

// newShelf is an empty one, with room for most things.
func newShelf[V any](most int) *shelf[V] {
	things, _ := table.New[V](most)
	return &shelf[V]{things: things}
}

// get is one.
func (s *shelf[V]) get(k table.Key) (V, bool) {
	return s.things.Get(k)
}

// put puts one in that is not there, and for which there is room.
func (s *shelf[V]) put(k table.Key, v V) {
	s.things.Put(k, v)
	s.ids[k.Peer] = s.ids[k.Peer].with(k.ID)
}

// drop takes one out that is there.
func (s *shelf[V]) drop(k table.Key) {
	s.things.Delete(k)
	s.ids[k.Peer] = s.ids[k.Peer].without(k.ID)
}

// dropBelow takes all of a host out whose ids are below one: how many these were.
func (s *shelf[V]) dropBelow(host int, id uint64) int {
	below := s.ids[host].below(id)
	for _, id := range below {
		s.things.Delete(table.Key{Peer: host, ID: id})
	}
	s.ids[host] = s.ids[host].behind(len(below))
	return len(below)
}

// all is how many there are.
func (s *shelf[V]) all() int {
	return s.things.Len()
}

// of is how many there are of a host.
func (s *shelf[V]) of(host int) int {
	return len(s.ids[host])
}
