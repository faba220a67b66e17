package ids

import (
	"math"
	"slices"
	"strconv"
	"testing"

	"mizzen/api"
)

// made is a window of which these have ended, in this order.
func made(t *testing.T, most int, ended ...uint64) *Window {
	t.Helper()
	w, e := New(most)
	if w == nil || e != api.OK {
		t.Fatalf("New(%d): got %v, %v", most, w, e)
	}
	for _, id := range ended {
		if e := w.Done(id); e != api.OK {
			t.Fatalf("Done(%d): got %v", id, e)
		}
	}
	return w
}

// stands holds the mark, and all records.
func stands(t *testing.T, what string, w *Window, mark uint64, records ...uint64) {
	t.Helper()
	equal(t, what+": Mark", w.Mark(), mark)
	equal(t, what+": Len", w.Len(), len(records))
	for _, id := range records {
		equal(t, what+": Is "+strconv.FormatUint(id, 10), w.Is(id), true)
	}
	if !slices.Equal(w.records, records) {
		t.Errorf("%s: records: got %v, want %v", what, w.records, records)
	}
}

// draws is a rule for numbers.
type draws uint64

func (d *draws) below(n int) int {
	*d = *d*6364136223846793005 + 1442695040888963407
	return int(uint64(*d)>>33) % n
}

// slow is a window that goes the way that the chapter's sentences go, with each number of its own.
type slow struct {
	most  int
	mark  uint64
	ended map[uint64]bool // from the mark on
}

func slowly(most int) *slow {
	return &slow{most: most, mark: 1, ended: map[uint64]bool{}}
}

func (s *slow) is(id uint64) bool {
	return id > 0 && (id < s.mark || s.ended[id])
}

// goOn lets the mark go on over all that have ended: how many records went.
func (s *slow) goOn() int {
	n := 0
	for ; s.ended[s.mark]; s.mark++ {
		delete(s.ended, s.mark)
		n++
	}
	return n
}

func (s *slow) done(id uint64) api.Errno {
	if id == 0 || id > top {
		return api.ErrArg
	}
	if s.is(id) {
		return api.OK
	}
	if len(s.ended) >= s.most && id != s.mark {
		return api.ErrFull
	}
	s.ended[id] = true
	s.goOn()
	return api.OK
}

func (s *slow) retire(below uint64) int {
	n := 0
	for ; s.mark < below && s.mark <= top; s.mark++ {
		if s.ended[s.mark] {
			delete(s.ended, s.mark)
			n++
		}
	}
	return n + s.goOn()
}

// same holds all that can be told of both, up to a number.
func same(t *testing.T, w *Window, s *slow, end uint64) {
	t.Helper()
	equal(t, "Mark", w.Mark(), s.mark)
	equal(t, "Len", w.Len(), len(s.ended))
	for id := range end {
		if got := w.Is(id); got != s.is(id) {
			t.Fatalf("Is(%d): got %v; mark %d", id, got, s.mark)
		}
	}
}

func TestP92New(t *testing.T) {
	for _, most := range []int{0, -1, -100000, math.MinInt, 100001, 1 << 32, 1<<32 + 1, math.MaxInt} {
		w, e := New(most)
		equal(t, "error", e, api.ErrArg)
		equal(t, "beside an error", w, nil)
	}
	for _, most := range []int{1, 2, 3, 99999, 100000} {
		w := made(t, most)
		stands(t, "a new one", w, 1)
		for _, id := range []uint64{0, 1, 2, top, top + 1, math.MaxUint64} {
			equal(t, "Is of a new one", w.Is(id), false)
		}
	}
}

func TestP92Example(t *testing.T) {
	w := made(t, 5)
	equal(t, "Done(2)", w.Done(2), api.OK)
	stands(t, "2", w, 1, 2)
	equal(t, "Done(1)", w.Done(1), api.OK)
	stands(t, "1", w, 3)
}

// TestP92Done: each order of the same numbers comes to the same.
func TestP92Done(t *testing.T) {
	w := made(t, 10, 1)
	stands(t, "the mark", w, 2)
	w = made(t, 10, 1, 2, 3)
	stands(t, "one by one", w, 4)
	w = made(t, 10, 7, 5, 9, 6, 3)
	stands(t, "none is the mark", w, 1, 3, 5, 6, 7, 9)
	equal(t, "the mark itself", w.Done(1), api.OK)
	stands(t, "no farther than to the first that has not", w, 2, 3, 5, 6, 7, 9)
	equal(t, "the next mark", w.Done(2), api.OK)
	stands(t, "over one", w, 4, 5, 6, 7, 9)
	equal(t, "the next mark", w.Done(4), api.OK)
	stands(t, "over three", w, 8, 9)
	equal(t, "the next mark", w.Done(8), api.OK)
	stands(t, "over all", w, 10)
	equal(t, "and on", w.Done(10), api.OK)
	stands(t, "no records", w, 11)
}

func TestP92DoneWrong(t *testing.T) {
	for _, w := range []*Window{made(t, 1), made(t, 1, 3), made(t, 5, 1, 2, 4)} {
		mark, records := w.Mark(), slices.Clone(w.records)
		for _, id := range []uint64{0, top + 1, top + 2, 1 << 61, 1 << 63, math.MaxUint64} {
			equal(t, "Done", w.Done(id), api.ErrArg)
			equal(t, "Is", w.Is(id), false)
			stands(t, "beside an error", w, mark, records...)
		}
	}
}

// TestP92DoneAgain: what has ended ends again, even where there is no room, and changes nothing.
func TestP92DoneAgain(t *testing.T) {
	w := made(t, 2, 1, 2, 5, 7)
	for range 3 {
		for _, id := range []uint64{1, 2, 5, 7} {
			equal(t, "Done again", w.Done(id), api.OK)
			stands(t, "again", w, 3, 5, 7)
		}
	}
	w.Retire(100)
	for _, id := range []uint64{1, 6, 99} {
		equal(t, "Done of a retired one", w.Done(id), api.OK)
		stands(t, "retired", w, 100)
	}
}

func TestP92DoneFull(t *testing.T) {
	for _, most := range []int{1, 2, 3, 50, 100000} {
		w := made(t, most)
		for i := range uint64(most) {
			if e := w.Done(3 + 2*i); e != api.OK {
				t.Fatalf("Done %d of %d: got %v", i, most, e)
			}
		}
		last := 1 + 2*uint64(most)
		for _, id := range []uint64{2, last + 1, last + 2, top} {
			equal(t, "Done of one too many", w.Done(id), api.ErrFull)
			equal(t, "Is of one too many", w.Is(id), false)
			equal(t, "Mark", w.Mark(), 1)
			equal(t, "Len", w.Len(), most)
		}
		equal(t, "Done of the mark", w.Done(1), api.OK)
		equal(t, "Mark", w.Mark(), 2)
		equal(t, "Len of as many", w.Len(), most)
		equal(t, "Done of one too many", w.Done(last+2), api.ErrFull)
		equal(t, "Done of the mark", w.Done(2), api.OK)
		equal(t, "Mark", w.Mark(), 4)
		equal(t, "Len of one less", w.Len(), most-1)
		equal(t, "Done then", w.Done(last+2), api.OK)
		equal(t, "Len", w.Len(), most)
	}
}

func TestP92Is(t *testing.T) {
	w := made(t, 10, 2, 1, 5, 8, 6)
	var ended []uint64
	for id := range uint64(20) {
		if w.Is(id) {
			ended = append(ended, id)
		}
	}
	if want := []uint64{1, 2, 5, 6, 8}; !slices.Equal(ended, want) {
		t.Errorf("Is: got %v, want %v", ended, want)
	}
	for _, id := range []uint64{0, top, top + 1, 5 + 1<<32, 1 << 63, 5 + 1<<63, math.MaxUint64} {
		equal(t, "Is", w.Is(id), false)
	}
	stands(t, "it changes nothing", w, 3, 5, 6, 8)
}

func TestP92Retire(t *testing.T) {
	w := made(t, 10, 3, 5, 6, 9, 20)
	for _, below := range []uint64{0, 1} {
		equal(t, "below the mark", w.Retire(below), 0)
		stands(t, "below the mark", w, 1, 3, 5, 6, 9, 20)
	}
	equal(t, "ahead of all records", w.Retire(2), 0)
	stands(t, "ahead of all records", w, 2, 3, 5, 6, 9, 20)
	equal(t, "to a record", w.Retire(3), 1)
	stands(t, "to a record", w, 4, 5, 6, 9, 20)
	equal(t, "back", w.Retire(2), 0)
	stands(t, "back", w, 4, 5, 6, 9, 20)
	equal(t, "to the mark", w.Retire(4), 0)
	stands(t, "to the mark", w, 4, 5, 6, 9, 20)
	equal(t, "into a run of records", w.Retire(6), 2)
	stands(t, "into a run of records", w, 7, 9, 20)
	equal(t, "between records", w.Retire(15), 1)
	stands(t, "between records", w, 15, 20)
	equal(t, "Is of what was below", w.Is(14), true)
	equal(t, "Is of the mark", w.Is(15), false)
	equal(t, "behind all records", w.Retire(21), 1)
	stands(t, "behind all records", w, 21)
	equal(t, "with no records", w.Retire(1000), 0)
	stands(t, "with no records", w, 1000)

	w = made(t, 10, 2, 3, 5, 6, 7, 9)
	equal(t, "over records below, and over those behind", w.Retire(4), 2)
	stands(t, "over records below", w, 4, 5, 6, 7, 9)
	equal(t, "over the run behind it", w.Retire(5), 3)
	stands(t, "over the run behind it", w, 8, 9)
	w = made(t, 10, 2, 4, 5, 7)
	equal(t, "below, and behind", w.Retire(4), 3)
	stands(t, "below, and behind", w, 6, 7)
}

// TestP92Top: the last of all numbers, and what lies behind it.
func TestP92Top(t *testing.T) {
	for _, below := range []uint64{top + 1, top + 2, 1 << 63, math.MaxUint64} {
		w := made(t, 10, 2, top-5, top)
		equal(t, "all records go", w.Retire(below), 3)
		stands(t, "at the end", w, top+1)
		equal(t, "Is of the last one", w.Is(top), true)
		for _, id := range []uint64{top + 1, top + 2, math.MaxUint64} {
			equal(t, "Is behind the last one", w.Is(id), false)
			equal(t, "Done behind the last one", w.Done(id), api.ErrArg)
		}
		equal(t, "Done of the last one again", w.Done(top), api.OK)
		equal(t, "none go any more", w.Retire(below), 0)
		stands(t, "at the end", w, top+1)
	}
	for _, below := range []uint64{top + 1, top + 2, math.MaxUint64} {
		w := made(t, 10, 3)
		equal(t, "with no record of the last one", w.Retire(below), 1)
		stands(t, "at the end", w, top+1)
	}
	w := made(t, 1)
	equal(t, "all but the last one", w.Retire(top), 0)
	stands(t, "the last one is left", w, top)
	equal(t, "Is of the last one", w.Is(top), false)
	equal(t, "Done of the last one", w.Done(top), api.OK)
	stands(t, "none is left", w, top+1)
	w = made(t, 2, top, top-1)
	equal(t, "up to the last two", w.Retire(top-1), 2)
	stands(t, "none is left", w, top+1)
}

func TestP92Lowest(t *testing.T) {
	type question struct {
		open []uint64
		next uint64
		want uint64
	}
	w := made(t, 10, 1, 2, 7)
	for _, q := range []question{
		{nil, 7, 7}, {[]uint64{}, 1, 1}, {[]uint64{5, 9}, 7, 5}, {[]uint64{9}, 7, 7}, {[]uint64{9, 8, 3, 4}, 7, 3}, {[]uint64{9, 8, 4}, 2, 2},
		{[]uint64{7, 7}, 7, 7}, {[]uint64{top}, top + 1, top}, {nil, 0, 0}, {[]uint64{0, 4}, 7, 0}, {[]uint64{4, 0}, 7, 0},
		{[]uint64{1 << 63}, math.MaxUint64, 1 << 63}, {[]uint64{math.MaxUint64}, 1 << 63, 1 << 63}, {nil, math.MaxUint64, math.MaxUint64},
	} {
		for _, x := range []*Window{w, made(t, 1)} {
			asked := slices.Clone(q.open)
			equal(t, "Lowest", x.Lowest(asked, q.next), q.want)
			equal(t, "what was handed in", slices.Equal(asked, q.open), true)
		}
	}
	stands(t, "it changes nothing", w, 3, 7)
}

// answersNothing holds what a window does that is none.
func answersNothing(t *testing.T, w *Window) {
	t.Helper()
	for range 2 {
		for _, id := range []uint64{0, top + 1, math.MaxUint64} {
			equal(t, "Done of a wrong one", w.Done(id), api.ErrArg)
		}
		for _, id := range []uint64{0, 1, 2, 5, top, top + 1, math.MaxUint64} {
			equal(t, "Is", w.Is(id), false)
			equal(t, "Retire", w.Retire(id), 0)
			equal(t, "Lowest", w.Lowest([]uint64{id}, id), 0)
			equal(t, "Mark", w.Mark(), 0)
			equal(t, "Len", w.Len(), 0)
		}
		for _, id := range []uint64{1, 2, top} {
			equal(t, "Done", w.Done(id), api.ErrFull)
			equal(t, "Is then", w.Is(id), false)
		}
	}
}

func TestP93NoWindow(t *testing.T) {
	answersNothing(t, nil)
	answersNothing(t, &Window{})
}

// step does one thing with both, and holds what they tell.
func step(t *testing.T, d *draws, w *Window, s *slow, end int) {
	t.Helper()
	mark := w.Mark()
	id := uint64(d.below(end))
	if d.below(4) == 0 {
		// Each mark's turn comes, else the window is full for ever.
		id = mark
	}
	switch d.below(12) {
	case 0:
		below := min(id, mark+uint64(d.below(4)))
		equal(t, "Retire", w.Retire(below), s.retire(below))
	case 1:
		wrong := math.MaxUint64 - id
		equal(t, "Done of a wrong one", w.Done(wrong), s.done(wrong))
	default:
		equal(t, "Done", w.Done(id), s.done(id))
		equal(t, "Is", w.Is(id), s.is(id))
	}
	if w.Mark() < mark {
		t.Fatalf("the mark fell from %d to %d", mark, w.Mark())
	}
}

// TestP94Steps: a window, step by step, against one that has each number of its own. So what has ended has ended for ever.
func TestP94Steps(t *testing.T) {
	const end = 200
	for _, most := range []int{1, 2, 3, 5, 10, 40, 100, 100000} {
		for seed := range 20 {
			d := draws(seed*1000 + most)
			w, s := made(t, most), slowly(most)
			for range 400 {
				step(t, &d, w, s, end)
			}
			same(t, w, s, end+10)
			for id := uint64(1); id < end; id++ {
				equal(t, "Done at last", w.Done(id), s.done(id))
			}
			same(t, w, s, end+10)
			equal(t, "Mark at last", w.Mark() >= end, true)
			if t.Failed() {
				t.Fatalf("most %d, seed %d", most, seed)
			}
		}
	}
}

// TestP94Orders: whatever the order in which the same numbers end, they have ended, and the mark never falls.
func TestP94Orders(t *testing.T) {
	const count = 101
	for factor := 1; factor < count; factor++ {
		w, s := made(t, count), slowly(count)
		mark := uint64(1)
		for i := range count {
			// count is prime: each factor goes through all of them.
			id := uint64(i*factor%count) + 1
			equal(t, "Done", w.Done(id), s.done(id))
			equal(t, "Mark is at least what it was", w.Mark() >= mark, true)
			mark = w.Mark()
			equal(t, "Mark", mark, s.mark)
			equal(t, "Len", w.Len(), len(s.ended))
		}
		stands(t, "all", w, count+1)
	}
}

// TestP94Most: as many records as there may be, from each end and mixed, and all of them go at once.
func TestP94Most(t *testing.T) {
	const most = 100000
	for _, factor := range []int{1, most, 70001} {
		w := made(t, most)
		for i := range most {
			// most + 1 has no divisor in common with the factors: each goes through all from 1 to most.
			id := uint64((i+1)*factor%(most+1)) + 1
			if e := w.Done(id); e != api.OK {
				t.Fatalf("Done(%d): got %v", id, e)
			}
		}
		equal(t, "Mark", w.Mark(), 1)
		equal(t, "Len", w.Len(), most)
		equal(t, "one too many", w.Done(most+2), api.ErrFull)
		equal(t, "the mark", w.Done(1), api.OK)
		stands(t, "all", w, most+2)
	}
}

// TestP94Room: a window keeps little room beyond what its records need.
func TestP94Room(t *testing.T) {
	w := made(t, 100000)
	for i := range uint64(20000) {
		w.Done(2 * (i + 1))
	}
	for w.Len() > 0 {
		equal(t, "the mark", w.Done(w.Mark()), api.OK)
		if w.wasted > w.Len() {
			t.Fatalf("%d records keep %d places ahead of them", w.Len(), w.wasted)
		}
		if room := cap(w.records) + w.wasted; room > 4*w.Len()+64 {
			t.Fatalf("%d records keep %d places", w.Len(), room)
		}
	}
	equal(t, "places of none", cap(w.records)+w.wasted, 0)
	w.Done(50000)
	w.Retire(1 << 50)
	equal(t, "places of none", cap(w.records)+w.wasted, 0)
}

// TestP94Own: two windows have nothing in common, and a list that was handed in is not kept.
func TestP94Own(t *testing.T) {
	w, x := made(t, 3), made(t, 3)
	w.Done(1)
	w.Done(3)
	stands(t, "the other one", x, 1)
	x.Done(2)
	stands(t, "the other one", x, 1, 2)
	open := []uint64{4, 5, 6}
	equal(t, "Lowest", w.Lowest(open, 9), 4)
	clear(open)
	equal(t, "Lowest", w.Lowest(nil, 9), 9)
	stands(t, "one", w, 2, 3)
	w.Retire(1 << 40)
	stands(t, "the other one", x, 1, 2)
}
