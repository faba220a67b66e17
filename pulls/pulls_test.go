package pulls

import (
	"math"
	"slices"
	"testing"

	"mizzen/api"
)

const (
	// last is the greatest number of a flow.
	last = 1 << 60
	// million is the most that one call may want.
	million = 1000000
	// top is the most that a flow waits for.
	top = 1 << 30
)

func equal[T comparable](t *testing.T, what string, got, want T) {
	t.Helper()
	if got != want {
		t.Errorf("%s: got %v, want %v", what, got, want)
	}
}

// made is one that New made.
func made(t *testing.T, most int) *Queue {
	t.Helper()
	q, e := New(most)
	if q == nil || e != api.OK {
		t.Fatalf("New(%d): got %v, %v", most, q, e)
	}
	return q
}

// told is what Next tells.
type told struct {
	peer int
	id   uint64
	num  int
	ok   bool
}

func next(q *Queue) told {
	peer, id, num, ok := q.Next()
	return told{peer, id, num, ok}
}

// wants holds that Want answers OK.
func wants(t *testing.T, q *Queue, peer int, id uint64, n int) {
	t.Helper()
	if e := q.Want(peer, id, n); e != api.OK {
		t.Fatalf("Want(%d, %d, %d): got %v", peer, id, n, e)
	}
}

// comes holds what Next tells.
func comes(t *testing.T, q *Queue, peer int, id uint64, num int) {
	t.Helper()
	equal(t, "Next", next(q), told{peer, id, num, true})
}

// comesNone holds that none waits.
func comesNone(t *testing.T, q *Queue) {
	t.Helper()
	for range 3 {
		equal(t, "Next of none", next(q), told{})
	}
	equal(t, "Len of none", q.Len(), 0)
}

// stands holds what a flow waits for and got.
func stands(t *testing.T, q *Queue, peer int, id uint64, waits, pulled int) {
	t.Helper()
	equal(t, "Waits", q.Waits(peer, id), waits)
	equal(t, "Pulled", q.Pulled(peer, id), pulled)
}

// name is a flow's.
type name struct {
	peer int
	id   uint64
}

// noFlows is some that there may not be.
var noFlows = []name{
	{-1, 1}, {8, 1}, {9, 1}, {1 << 32, 1}, {math.MinInt, 1}, {math.MaxInt, 1},
	{0, 0}, {7, 0}, {0, last + 1}, {7, last + 1}, {3, 1 << 63}, {3, math.MaxUint64},
	{-1, 0}, {8, last + 1}, {math.MinInt, math.MaxUint64},
}

func TestP181New(t *testing.T) {
	for _, most := range []int{math.MinInt, -10000, -1, 0, 10001, 10002, 1 << 32, 1<<32 + 1, math.MaxInt} {
		q, e := New(most)
		equal(t, "error", e, api.ErrArg)
		equal(t, "beside an error", q, nil)
	}
	for _, most := range []int{1, 2, 9999, 10000} {
		q := made(t, most)
		comesNone(t, q)
		stands(t, q, 0, 1, 0, 0)
		equal(t, "Drop of a new one", q.Drop(0, 1), 0)
	}
}

func TestP181Want(t *testing.T) {
	q := made(t, 10)
	sum := 0
	for _, f := range []name{{0, 1}, {7, last}, {3, 5}, {0, last}, {7, 1}, {3, last - 1}} {
		for i, n := range []int{1, 2, million - 1, million} {
			before := []int{0, 1, 3, million + 2}[i]
			equal(t, "Waits ahead", q.Waits(f.peer, f.id), before)
			wants(t, q, f.peer, f.id, n)
			stands(t, q, f.peer, f.id, before+n, 0)
			sum += n
			equal(t, "Len", q.Len(), sum)
		}
	}
}

func TestP181WantNot(t *testing.T) {
	q := made(t, 2)
	wants(t, q, 3, 5, 4)
	comes(t, q, 3, 5, 1)
	for _, f := range noFlows {
		equal(t, "Want of no flow", q.Want(f.peer, f.id, 1), api.ErrArg)
		equal(t, "Want of no flow, of none", q.Want(f.peer, f.id, 0), api.ErrArg)
		stands(t, q, f.peer, f.id, 0, 0)
	}
	for _, n := range []int{0, -1, million + 1, 1 << 32, 1<<32 + 1, math.MinInt, math.MaxInt} {
		equal(t, "Want of a flow", q.Want(3, 5, n), api.ErrArg)
		equal(t, "Want of another one", q.Want(3, 6, n), api.ErrArg)
	}
	// ErrArg first, where it is full, too.
	wants(t, q, 0, 1, 1)
	equal(t, "full, no peer", q.Want(8, 1, 1), api.ErrArg)
	equal(t, "full, no number", q.Want(0, 0, 1), api.ErrArg)
	equal(t, "full, none", q.Want(1, 1, 0), api.ErrArg)
	equal(t, "full, too many", q.Want(1, 1, million+1), api.ErrArg)
	equal(t, "Len", q.Len(), 4)
	stands(t, q, 3, 5, 3, 1)
	stands(t, q, 3, 6, 0, 0)
}

func TestP181Full(t *testing.T) {
	q := made(t, 3)
	wants(t, q, 1, 7, 1)
	wants(t, q, 1, 8, 1)
	wants(t, q, 2, 7, 1)
	for range 3 {
		equal(t, "one more", q.Want(2, 8, 1), api.ErrFull)
		equal(t, "one of another peer", q.Want(0, 7, million), api.ErrFull)
		stands(t, q, 2, 8, 0, 0)
		equal(t, "Len", q.Len(), 3)
	}
	wants(t, q, 1, 7, 2)
	wants(t, q, 2, 7, 2)
	// A flow that waits for none, but got one, is known.
	comes(t, q, 1, 7, 1)
	comes(t, q, 2, 7, 1)
	comes(t, q, 1, 8, 1)
	stands(t, q, 1, 8, 0, 1)
	equal(t, "one more", q.Want(2, 8, 1), api.ErrFull)
	wants(t, q, 1, 8, 5)
	stands(t, q, 1, 8, 5, 1)
	// One that is dropped makes room, just for one.
	equal(t, "Drop", q.Drop(1, 7), 2)
	wants(t, q, 2, 8, 1)
	equal(t, "one more", q.Want(1, 7, 1), api.ErrFull)
	// So does one that waits for none.
	for q.Waits(1, 8) > 0 {
		next(q)
	}
	equal(t, "Drop of one that waits for none", q.Drop(1, 8), 0)
	wants(t, q, 1, 7, 1)
	equal(t, "one more", q.Want(1, 8, 1), api.ErrFull)
	// What was not dropped, since it is not known, makes none.
	equal(t, "Drop of none", q.Drop(1, 8), 0)
	equal(t, "one more", q.Want(1, 8, 1), api.ErrFull)
}

// TestP181Most: as many as there may be, and not one more.
func TestP181Most(t *testing.T) {
	for _, most := range []int{1, 2, 100, 9999, 10000} {
		q := made(t, most)
		for i := range most {
			wants(t, q, i%8, uint64(1+i*7919%20011), 1)
		}
		equal(t, "one more", q.Want(0, last, 1), api.ErrFull)
		equal(t, "Len", q.Len(), most)
		for range most {
			equal(t, "Next", next(q).ok, true)
		}
		comesNone(t, q)
		equal(t, "one more", q.Want(0, last, 1), api.ErrFull)
		wants(t, q, 0, 1, 3)
		equal(t, "Drop", q.Drop(0, 1), 3)
		wants(t, q, 0, last, 1)
		equal(t, "one more", q.Want(0, 1, 1), api.ErrFull)
	}
}

func TestP181Clamped(t *testing.T) {
	q := made(t, 2)
	for range top / million {
		wants(t, q, 0, 1, million)
	}
	rest := top % million
	wants(t, q, 0, 1, rest-1)
	stands(t, q, 0, 1, top-1, 0)
	wants(t, q, 0, 1, 1)
	stands(t, q, 0, 1, top, 0)
	for _, n := range []int{1, 2, million} {
		wants(t, q, 0, 1, n)
		stands(t, q, 0, 1, top, 0)
		equal(t, "Len", q.Len(), top)
	}
	comes(t, q, 0, 1, 1)
	stands(t, q, 0, 1, top-1, 1)
	wants(t, q, 0, 1, 2)
	stands(t, q, 0, 1, top, 1)
	wants(t, q, 5, 1, 9)
	equal(t, "Len", q.Len(), top+9)
	equal(t, "Drop", q.Drop(0, 1), top)
	equal(t, "Len", q.Len(), 9)
}

// TestP181LenMost: the sum of all does not run over, and is not held at what one may wait for.
func TestP181LenMost(t *testing.T) {
	q := made(t, 10000)
	for i := range 10000 {
		for range top/million + 1 {
			q.Want(i%8, uint64(1+i), million)
		}
	}
	equal(t, "Len", q.Len(), 10000*top)
	comes(t, q, 0, 1, 1)
	equal(t, "Len", q.Len(), 10000*top-1)
	equal(t, "Drop", q.Drop(1, 2), top)
	equal(t, "Len", q.Len(), 9999*top-1)
}

func TestP181None(t *testing.T) {
	q := made(t, 5)
	wants(t, q, 3, 5, 2)
	comes(t, q, 3, 5, 1)
	for _, f := range append(noFlows, name{3, 4}, name{3, 6}, name{2, 5}, name{4, 5}, name{3, last}) {
		stands(t, q, f.peer, f.id, 0, 0)
		equal(t, "Drop of none", q.Drop(f.peer, f.id), 0)
	}
	equal(t, "Len", q.Len(), 1)
	stands(t, q, 3, 5, 1, 1)
	wants(t, q, 3, 4, 1)
	comes(t, q, 3, 4, 1)
	comes(t, q, 3, 5, 2)
}

func TestP182Example(t *testing.T) {
	q := made(t, 2)
	wants(t, q, 0, 1, 2)
	wants(t, q, 1, 1, 1)
	comes(t, q, 0, 1, 1)
	comes(t, q, 1, 1, 1)
	comes(t, q, 0, 1, 2)
	comesNone(t, q)
}

func TestP182Peers(t *testing.T) {
	q := made(t, 10)
	for _, peer := range []int{6, 2, 7, 4} {
		wants(t, q, peer, 1, 2)
	}
	comes(t, q, 2, 1, 1)
	comes(t, q, 4, 1, 1)
	// One ahead of the last peer comes when all behind it have had their turn.
	wants(t, q, 0, 1, 1)
	wants(t, q, 3, 1, 1)
	wants(t, q, 5, 1, 1)
	comes(t, q, 5, 1, 1)
	comes(t, q, 6, 1, 1)
	comes(t, q, 7, 1, 1)
	comes(t, q, 0, 1, 1)
	comes(t, q, 2, 1, 2)
	comes(t, q, 3, 1, 1)
	comes(t, q, 4, 1, 2)
	comes(t, q, 6, 1, 2)
	comes(t, q, 7, 1, 2)
	comesNone(t, q)
}

// TestP182Turn: whose turn it is stays, while none waits, and when the last flow is dropped.
func TestP182Turn(t *testing.T) {
	for peer := range 8 {
		q := made(t, 10)
		comesNone(t, q)
		wants(t, q, peer, 1, 1)
		comes(t, q, peer, 1, 1)
		comesNone(t, q)
		q.Drop(peer, 1)
		comesNone(t, q)
		for p := range 8 {
			wants(t, q, p, 1, 1)
		}
		for i := range 8 {
			comes(t, q, (peer+1+i)%8, 1, 1)
		}
		comesNone(t, q)
	}
}

// TestP182FirstPeer: a Next that told none is no turn of peer 0.
func TestP182FirstPeer(t *testing.T) {
	q := made(t, 2)
	comesNone(t, q)
	wants(t, q, 1, 1, 1)
	wants(t, q, 0, 1, 1)
	comes(t, q, 0, 1, 1)
	comes(t, q, 1, 1, 1)
}

func TestP182Flows(t *testing.T) {
	q := made(t, 10)
	for _, id := range []uint64{50, last, 1, 20} {
		wants(t, q, 3, id, 2)
	}
	comes(t, q, 3, 1, 1)
	comes(t, q, 3, 20, 1)
	wants(t, q, 3, 10, 1)
	wants(t, q, 3, 21, 1)
	comes(t, q, 3, 21, 1)
	comes(t, q, 3, 50, 1)
	comes(t, q, 3, last, 1)
	comes(t, q, 3, 1, 2)
	comes(t, q, 3, 10, 1)
	comes(t, q, 3, 20, 2)
	comes(t, q, 3, 50, 2)
	comes(t, q, 3, last, 2)
	comesNone(t, q)
}

// TestP182FlowsStay: the last flow of a peer is its last one whatever other peers do, while none of its own waits, and
// when it is dropped.
func TestP182FlowsStay(t *testing.T) {
	q := made(t, 10)
	wants(t, q, 3, 20, 1)
	wants(t, q, 5, 40, 1)
	comes(t, q, 3, 20, 1)
	comes(t, q, 5, 40, 1)
	comesNone(t, q)
	for _, id := range []uint64{10, 20, 30, 50} {
		wants(t, q, 3, id, 1)
		wants(t, q, 5, id, 1)
	}
	equal(t, "Drop", q.Drop(3, 20), 1)
	comes(t, q, 3, 30, 1)
	comes(t, q, 5, 50, 1)
	comes(t, q, 3, 50, 1)
	comes(t, q, 5, 10, 1)
	comes(t, q, 3, 10, 1)
	comes(t, q, 5, 20, 1)
	comes(t, q, 5, 30, 1)
	comesNone(t, q)
	// Known anew, one from ahead of the last one still waits until the greatest went.
	for _, id := range []uint64{10, 20, 30, 50} {
		q.Drop(3, id)
	}
	for _, id := range []uint64{5, 10, 15} {
		wants(t, q, 3, id, 1)
	}
	comes(t, q, 3, 15, 1)
	comes(t, q, 3, 5, 1)
	comes(t, q, 3, 10, 1)
}

// TestP182Alone: a flow that alone waits gets all, and its count rises by one each.
func TestP182Alone(t *testing.T) {
	for _, f := range []name{{0, 1}, {7, last}, {0, last}, {4, 77}} {
		q := made(t, 1)
		num := 0
		for range 3 {
			wants(t, q, f.peer, f.id, 100)
			for range 100 {
				num++
				comes(t, q, f.peer, f.id, num)
				stands(t, q, f.peer, f.id, (300-num)%100, num)
			}
			comesNone(t, q)
		}
	}
}

func TestP182Drop(t *testing.T) {
	q := made(t, 5)
	wants(t, q, 1, 10, 3)
	wants(t, q, 1, 20, 4)
	wants(t, q, 2, 10, 5)
	comes(t, q, 1, 10, 1)
	comes(t, q, 2, 10, 1)
	equal(t, "Drop", q.Drop(1, 10), 2)
	stands(t, q, 1, 10, 0, 0)
	equal(t, "Drop again", q.Drop(1, 10), 0)
	equal(t, "Len", q.Len(), 8)
	stands(t, q, 1, 20, 4, 0)
	stands(t, q, 2, 10, 4, 1)
	// Known anew, it got none yet.
	wants(t, q, 1, 10, 1)
	stands(t, q, 1, 10, 1, 0)
	comes(t, q, 1, 20, 1)
	comes(t, q, 2, 10, 2)
	comes(t, q, 1, 10, 1)
	// All of a peer dropped: the others go on.
	equal(t, "Drop", q.Drop(2, 10), 3)
	comes(t, q, 1, 20, 2)
	comes(t, q, 1, 20, 3)
	equal(t, "Drop", q.Drop(1, 20), 1)
	comesNone(t, q)
	equal(t, "Drop of one that waits for none", q.Drop(1, 10), 0)
	stands(t, q, 1, 10, 0, 0)
}

// TestP182DropNext: the flow whose turn it is goes; the one behind it comes.
func TestP182DropNext(t *testing.T) {
	q := made(t, 8)
	for id := range uint64(5) {
		wants(t, q, 6, id+1, 9)
	}
	comes(t, q, 6, 1, 1)
	comes(t, q, 6, 2, 1)
	q.Drop(6, 3)
	comes(t, q, 6, 4, 1)
	q.Drop(6, 5)
	comes(t, q, 6, 1, 2)
	q.Drop(6, 1)
	comes(t, q, 6, 2, 2)
	q.Drop(6, 4)
	comes(t, q, 6, 2, 3)
}

// TestP182No: one that is nil, and one that New did not make, know of none and have room for none.
func TestP182No(t *testing.T) {
	for _, q := range []*Queue{nil, {}} {
		for range 2 {
			for _, f := range noFlows {
				equal(t, "Want of no flow", q.Want(f.peer, f.id, 1), api.ErrArg)
				equal(t, "Drop", q.Drop(f.peer, f.id), 0)
				stands(t, q, f.peer, f.id, 0, 0)
			}
			for _, n := range []int{0, -1, million + 1, math.MinInt, math.MaxInt} {
				equal(t, "Want of a number that may not be", q.Want(0, 1, n), api.ErrArg)
			}
			for _, f := range []name{{0, 1}, {7, last}, {3, 9}} {
				equal(t, "Want", q.Want(f.peer, f.id, 1), api.ErrFull)
				equal(t, "Want", q.Want(f.peer, f.id, million), api.ErrFull)
				equal(t, "Drop", q.Drop(f.peer, f.id), 0)
				stands(t, q, f.peer, f.id, 0, 0)
			}
			comesNone(t, q)
		}
	}
}

// TestP182Apart: two of them have nothing in common.
func TestP182Apart(t *testing.T) {
	q, r := made(t, 1), made(t, 2)
	wants(t, q, 4, 9, 2)
	comes(t, q, 4, 9, 1)
	stands(t, r, 4, 9, 0, 0)
	wants(t, r, 4, 9, 1)
	wants(t, r, 0, 1, 1)
	equal(t, "full", q.Want(0, 1, 1), api.ErrFull)
	comes(t, r, 0, 1, 1)
	comes(t, r, 4, 9, 1)
	comes(t, q, 4, 9, 2)
	equal(t, "Drop", q.Drop(4, 9), 0)
	stands(t, r, 4, 9, 0, 1)
}

// TestP183Two: from the time on at which two peers both always wait, neither gets two more than the other one, whatever
// the other peers do, and whichever flows of theirs are dropped or come.
func TestP183Two(t *testing.T) {
	d := draws(183)
	for range 200 {
		q := made(t, 40)
		a := d.below(8)
		b := (a + 1 + d.below(7)) % 8
		for range d.below(30) {
			q.Want(d.below(8), uint64(1+d.below(5)), 1+d.below(3))
			q.Next()
		}
		wants(t, q, a, 1, million)
		wants(t, q, b, 1, million)
		var got [8]int
		for range 300 {
			switch peer, id := d.below(8), uint64(2+d.below(4)); d.below(4) {
			case 0:
				q.Want(peer, id, 1+d.below(4))
			case 1:
				q.Drop(peer, id)
			default:
				got[next(q).peer]++
			}
			if got[a]-got[b] > 1 || got[b]-got[a] > 1 {
				t.Fatalf("peers %d and %d: got %d and %d", a, b, got[a], got[b])
			}
		}
		if got[a] == 0 || got[b] == 0 {
			t.Fatalf("peers %d and %d: got %d and %d", a, b, got[a], got[b])
		}
	}
}

// TestP183Round: where all wait, each gets one in each round, of each flow in its turn.
func TestP183Round(t *testing.T) {
	q := made(t, 10000)
	for peer := range 8 {
		for id := range 50 {
			wants(t, q, peer, uint64(1000-id*peer), 4)
		}
	}
	flows := func(peer int) int {
		if peer == 0 {
			return 1
		}
		return 50
	}
	for round := range 4 * 50 {
		for peer := range 8 {
			n := flows(peer)
			at := round % n
			comes(t, q, peer, uint64(1000-(n-1-at)*peer), round/n+1)
		}
	}
	comesNone(t, q)
}

// draws is a rule for numbers.
type draws uint64

func (d *draws) below(n int) int {
	*d = *d*6364136223846793005 + 1442695040888963407
	return int(uint64(*d)>>33) % n
}

// slow goes round number by number: its flows are those of few numbers, with places of their own.
type slow struct {
	most   int
	peer   int // that of the last one that got a pull
	flow   [8]int
	waits  [8][fewNumbers]int
	pulled [8][fewNumbers]int
}

// fewNumbers is how many numbers a slow one has; 0 is that of none.
const fewNumbers = 7

func (s *slow) known() int {
	n := 0
	for peer := range 8 {
		for id := range fewNumbers {
			if s.waits[peer][id] > 0 || s.pulled[peer][id] > 0 {
				n++
			}
		}
	}
	return n
}

func (s *slow) len() int {
	n := 0
	for peer := range 8 {
		for id := range fewNumbers {
			n += s.waits[peer][id]
		}
	}
	return n
}

func (s *slow) want(peer, id, n int) api.Errno {
	if peer < 0 || peer > 7 || id < 1 || n < 1 || n > million {
		return api.ErrArg
	}
	if s.waits[peer][id] == 0 && s.pulled[peer][id] == 0 && s.known() >= s.most {
		return api.ErrFull
	}
	s.waits[peer][id] = min(s.waits[peer][id]+n, top)
	return api.OK
}

func (s *slow) next() told {
	peer := s.peer
	for range 8 {
		peer++
		if peer > 7 {
			peer = 0
		}
		id := s.flow[peer]
		for range fewNumbers {
			id++
			if id >= fewNumbers {
				id = 0
			}
			if s.waits[peer][id] == 0 {
				continue
			}
			s.peer, s.flow[peer] = peer, id
			s.waits[peer][id]--
			s.pulled[peer][id]++
			return told{peer, uint64(id), s.pulled[peer][id], true}
		}
	}
	return told{}
}

func (s *slow) drop(peer, id int) int {
	n := s.waits[peer][id]
	s.waits[peer][id], s.pulled[peer][id] = 0, 0
	return n
}

// same holds all that can be told.
func same(t *testing.T, q *Queue, s *slow, spread func(id int) uint64) {
	t.Helper()
	equal(t, "Len", q.Len(), s.len())
	for peer := range 8 {
		for id := range fewNumbers {
			equal(t, "Waits", q.Waits(peer, spread(id)), s.waits[peer][id])
			equal(t, "Pulled", q.Pulled(peer, spread(id)), s.pulled[peer][id])
		}
	}
}

// TestP182Steps: step by step what the slow one tells, with numbers side by side, and with such that lie far apart.
func TestP182Steps(t *testing.T) {
	d := draws(182)
	far := []uint64{0, 1, 2, 1 << 31, 1<<32 + 1, last - 1, last}
	for i := range 150 {
		spread := func(id int) uint64 { return uint64(id) }
		if i%2 == 1 {
			spread = func(id int) uint64 { return far[id] }
		}
		most := 1 + d.below(30)
		q, s := made(t, most), &slow{most: most, peer: 7}
		for range 200 {
			steps(t, &d, q, s, spread)
			same(t, q, s, spread)
			if t.Failed() {
				t.FailNow()
			}
		}
	}
}

func steps(t *testing.T, d *draws, q *Queue, s *slow, spread func(id int) uint64) {
	t.Helper()
	peer, id := d.below(8), d.below(fewNumbers)
	switch d.below(8) {
	case 0, 1, 2:
		n := []int{1, 1, 2, 3, 5, 0, million, million + 1}[d.below(8)]
		equal(t, "Want", q.Want(peer, spread(id), n), s.want(peer, id, n))
	case 3:
		equal(t, "Drop", q.Drop(peer, spread(id)), s.drop(peer, id))
	default:
		want := s.next()
		want.id = spread(int(want.id))
		equal(t, "Next", next(q), want)
	}
}

// TestP182Many: 10000 flows of one peer go round, and while all but one wait for none, that one is found at once.
func TestP182Many(t *testing.T) {
	q := made(t, 10000)
	for i := range 10000 {
		wants(t, q, 5, uint64(1+i*7919%10000), 2)
	}
	for num := range 2 {
		for id := range 10000 {
			comes(t, q, 5, uint64(id+1), num+1)
		}
	}
	comesNone(t, q)
	wants(t, q, 5, 5000, million)
	for num := range million {
		if got := next(q); got != (told{5, 5000, num + 3, true}) {
			t.Fatalf("Next: got %v", got)
		}
	}
	comesNone(t, q)
}

// TestKept: what has gone leaves no room behind that grows with what there was.
func TestKept(t *testing.T) {
	q := made(t, 10000)
	for i := range 10000 {
		wants(t, q, 2, uint64(i+1), 1)
	}
	for range 10000 {
		next(q)
	}
	equal(t, "room of those that wait", cap(q.peers[2].waiting) <= fewestPlaces, true)
	for i := range 10000 {
		q.Drop(2, uint64(10000-i))
	}
	equal(t, "room of those that are known", cap(q.peers[2].known) <= fewestPlaces, true)
	for _, r := range []ring{q.peers[2].known, q.peers[2].waiting} {
		for _, f := range r[:cap(r)] {
			if f != nil {
				t.Error("a flow that has gone is kept")
			}
		}
	}
}

// TestRing: each flow of a ring is found, and the one behind it, and what stands there is in order.
func TestRing(t *testing.T) {
	d := draws(18)
	var r ring
	there := map[uint64]*flow{}
	for range 3000 {
		id := uint64(1 + d.below(40))
		f := r.find(id)
		equal(t, "find", f, there[id])
		if f == nil && d.below(3) > 0 {
			f = &flow{id: id}
			r, there[id] = r.with(f), f
		} else if f != nil && d.below(2) > 0 {
			r = r.without(f)
			delete(there, id)
		}
		equal(t, "how many", len(r), len(there))
		if !slices.IsSortedFunc(r, func(a, b *flow) int { return int(a.id) - int(b.id) }) {
			t.Fatal("not in order")
		}
		if len(r) > 0 {
			equal(t, "behind", r.behind(id).id, slowBehind(there, id))
		}
		equal(t, "much room", cap(r) > 8 && len(r) <= cap(r)/4, false)
	}
}

// slowBehind goes from number to number.
func slowBehind(there map[uint64]*flow, id uint64) uint64 {
	for {
		id = id%40 + 1
		if there[id] != nil {
			return id
		}
	}
}
