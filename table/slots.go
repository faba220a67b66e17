package table

const (
	// fewestSlots is how many slots there are as soon as one is needed.
	fewestSlots = 8
	// Of all slots one in crowded is taken at most, so that searches are short; as soon as fewer than one in lonely is, there are too many.
	crowded = 2
	lonely  = 8
)

// slot is where one may stand.
type slot[V any] struct {
	taken bool
	k     Key
	v     V
}

// slots is a hash table with open addressing: one stands in the slot that its key's hash tells, or, if others stand there, in the next one that is free.
// There are none of them, or a power of two, of which some are free, so that each search ends.
type slots[V any] []slot[V]

// mix spreads each bit of x over all bits: no two numbers are mixed to the same one.
func mix(x uint64) uint64 {
	x += 0x9e3779b97f4a7c15
	x = (x ^ x>>30) * 0xbf58476d1ce4e5b9
	x = (x ^ x>>27) * 0x94d049bb133111eb
	return x ^ x>>31
}

// home is where the search for k begins.
func (s slots[V]) home(k Key) int {
	return int(mix(mix(uint64(k.Peer))+k.ID) & uint64(len(s)-1))
}

// steps is how far a search goes that begins at from and ends at to: behind the last slot comes the first one.
func (s slots[V]) steps(from, to int) int {
	return (to - from) & (len(s) - 1)
}

// after is the slot where a search goes on from i.
func (s slots[V]) after(i int) int {
	return (i + 1) & (len(s) - 1)
}

// find is the slot of k, and true; if it stands nowhere, the free one that it would have, if there are slots at all.
func (s slots[V]) find(k Key) (int, bool) {
	if len(s) == 0 {
		return 0, false
	}
	i := s.home(k)
	for s[i].taken && s[i].k != k {
		i = s.after(i)
	}
	return i, s[i].taken
}

// fill lets one stand where its search ends. A slot must be free.
func (s slots[V]) fill(k Key, v V) {
	i, _ := s.find(k)
	s[i] = slot[V]{taken: true, k: k, v: v}
}

// empty frees a slot. Those behind it, up to the next free one, move up where their searches would end ahead of them.
func (s slots[V]) empty(hole int) {
	for i := s.after(hole); s[i].taken; i = s.after(i) {
		if s.steps(s.home(s[i].k), i) >= s.steps(hole, i) {
			s[hole] = s[i]
			hole = i
		}
	}
	s[hole] = slot[V]{}
}

// roomFor is slots with the same things, neither too few nor too many of them for count things.
func (s slots[V]) roomFor(count int) slots[V] {
	if count*crowded > len(s) {
		return s.moved(max(fewestSlots, 2*len(s)))
	}
	if count*lonely < len(s) && len(s) > fewestSlots {
		return s.moved(len(s) / 2)
	}
	return s
}

// moved is n slots with the same things.
func (s slots[V]) moved(n int) slots[V] {
	other := make(slots[V], n)
	for i := range s {
		if s[i].taken {
			other.fill(s[i].k, s[i].v)
		}
	}
	return other
}
