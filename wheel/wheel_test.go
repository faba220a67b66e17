package wheel

import (
	"cmp"
	"math"
	"slices"
	"testing"

	"mizzen/api"
)

func equal[T comparable](t *testing.T, what string, got, want T) {
	t.Helper()
	if got != want {
		t.Errorf("%s: got %v, want %v", what, got, want)
	}
}

func same[T comparable](t *testing.T, what string, got, want []T) {
	t.Helper()
	if !slices.Equal(got, want) {
		t.Errorf("%s: got %v, want %v", what, got, want)
	}
}

// added, coming are what Add, Next answer, in one.
type added struct {
	id int
	e  api.Errno
}

type coming struct {
	at int
	ok bool
}

func add[T any](w *Wheel[T], at int, v T) added {
	id, e := w.Add(at, v)
	return added{id, e}
}

func next[T any](w *Wheel[T]) coming {
	at, ok := w.Next()
	return coming{at, ok}
}

func made[T any](t *testing.T, most int) *Wheel[T] {
	t.Helper()
	w, e := New[T](most)
	if w == nil || e != api.OK {
		t.Fatalf("New(%d): got %v, %v", most, w, e)
	}
	return w
}

// draws is a rule for numbers that hits all lengths.
type draws uint64

func (d *draws) below(n int) int {
	*d = *d*6364136223846793005 + 1442695040888963407
	return int(uint64(*d)>>33) % n
}

// time is one of any length, MaxTime among them.
func (d *draws) time() int {
	digits := d.below(52)
	return min(d.below(1<<30)<<21>>(51-digits), api.MaxTime)
}

// edges are times at which a bucket ends, and another one begins.
func edges() []int {
	l := []int{api.MaxTime, 0}
	for digits := range 50 {
		l = append(l, 1<<digits, 1<<digits-1, 1<<digits+1, api.MaxTime-1<<digits)
	}
	return l
}

func TestP21New(t *testing.T) {
	for _, most := range []int{0, -1, 100001, math.MinInt, math.MaxInt} {
		w, e := New[int](most)
		equal(t, "error", e, api.ErrArg)
		equal(t, "beside an error", w, nil)
	}
	for _, most := range []int{1, 2, 99999, 100000} {
		w := made[int](t, most)
		equal(t, "now", w.Now(), 0)
		equal(t, "waiting", w.Len(), 0)
		equal(t, "next", next(w), coming{0, false})
	}
}

func TestP21Add(t *testing.T) {
	w := made[string](t, 5)
	equal(t, "first", add(w, 5, "a"), added{1, api.OK})
	equal(t, "below 0", add(w, -1, "no"), added{0, api.ErrArg})
	equal(t, "the least", add(w, math.MinInt, "no"), added{0, api.ErrArg})
	equal(t, "above MaxTime", add(w, api.MaxTime+1, "no"), added{0, api.ErrArg})
	equal(t, "the greatest", add(w, math.MaxInt, "no"), added{0, api.ErrArg})
	equal(t, "only what may be waits", w.Len(), 1)
	equal(t, "a refusal takes no number", add(w, 0, "b"), added{2, api.OK})
	equal(t, "MaxTime", add(w, api.MaxTime, "c"), added{3, api.OK})
	equal(t, "a time again", add(w, 5, "a"), added{4, api.OK})
	equal(t, "the fifth", add(w, 5, "e"), added{5, api.OK})
	equal(t, "full", add(w, 5, "no"), added{0, api.ErrFull})
	equal(t, "ErrArg goes first", add(w, -1, "no"), added{0, api.ErrArg})
	equal(t, "no more than most", w.Len(), 5)
	same(t, "all", w.Advance(api.MaxTime), []Due[string]{{0, 2, "b"}, {5, 1, "a"}, {5, 4, "a"}, {5, 5, "e"}, {api.MaxTime, 3, "c"}})
}

func TestP21Full(t *testing.T) {
	w := made[int](t, 1)
	equal(t, "one", add(w, 3, 1), added{1, api.OK})
	equal(t, "full", add(w, 3, 2), added{0, api.ErrFull})
	equal(t, "cancelled", w.Cancel(1), api.OK)
	equal(t, "room again, a new number", add(w, 3, 3), added{2, api.OK})
	equal(t, "full again", add(w, 2, 4), added{0, api.ErrFull})
	same(t, "came", w.Advance(3), []Due[int]{{3, 2, 3}})
	equal(t, "room when it came", add(w, 4, 5), added{3, api.OK})
}

func TestP21AheadOfNow(t *testing.T) {
	w := made[string](t, 9)
	w.Advance(10)
	add(w, 11, "later")
	add(w, 3, "early")
	add(w, 10, "now")
	add(w, 0, "earlier")
	equal(t, "none is ahead of now", next(w), coming{10, true})
	same(t, "now, by number", w.Advance(10), []Due[string]{{10, 2, "early"}, {10, 3, "now"}, {10, 4, "earlier"}})
	equal(t, "the other one waits", next(w), coming{11, true})
}

func TestP21Cancel(t *testing.T) {
	w := made[string](t, 9)
	equal(t, "none was there", w.Cancel(1), api.ErrNone)
	for _, v := range []string{"a", "b", "c", "d", "e"} {
		add(w, 7, v)
	}
	add(w, 9, "f")
	for _, id := range []int{0, -1, 7, math.MinInt, math.MaxInt} {
		equal(t, "no number", w.Cancel(id), api.ErrNone)
	}
	equal(t, "all wait", w.Len(), 6)
	equal(t, "the first", w.Cancel(1), api.OK)
	equal(t, "one between", w.Cancel(3), api.OK)
	equal(t, "the last", w.Cancel(5), api.OK)
	equal(t, "again", w.Cancel(3), api.ErrNone)
	equal(t, "three wait", w.Len(), 3)
	add(w, 7, "g")
	same(t, "those that are left", w.Advance(7), []Due[string]{{7, 2, "b"}, {7, 4, "d"}, {7, 7, "g"}})
	equal(t, "what came", w.Cancel(2), api.ErrNone)
	equal(t, "the later one", w.Cancel(6), api.OK)
	equal(t, "none is left", next(w), coming{0, false})
	same(t, "nothing more comes", w.Advance(api.MaxTime), nil)
}

func TestP22Advance(t *testing.T) {
	w := made[string](t, 9)
	same(t, "nothing waits", w.Advance(2), nil)
	add(w, 9, "a")
	add(w, 5, "b")
	add(w, 5, "c")
	add(w, 4, "d")
	same(t, "not yet", w.Advance(3), nil)
	equal(t, "now", w.Now(), 3)
	same(t, "by time, then number", w.Advance(5), []Due[string]{{4, 4, "d"}, {5, 2, "b"}, {5, 3, "c"}})
	same(t, "once", w.Advance(5), nil)
	same(t, "back", w.Advance(1), nil)
	same(t, "below 0", w.Advance(math.MinInt), nil)
	equal(t, "time does not go back", w.Now(), 5)
	equal(t, "the other one waits", w.Len(), 1)
	same(t, "the other one", w.Advance(9), []Due[string]{{9, 1, "a"}})
	equal(t, "empty", w.Len(), 0)
	equal(t, "empty, next", next(w), coming{0, false})
}

func TestP22NothingNewWithoutTime(t *testing.T) {
	w := made[int](t, 3)
	w.Advance(6)
	add(w, 2, 20)
	same(t, "a time ahead of now brings what waits for now", w.Advance(0), []Due[int]{{6, 1, 20}})
	add(w, 7, 70)
	same(t, "and nothing of later", w.Advance(6), nil)
}

func TestP22MaxTime(t *testing.T) {
	w := made[int](t, 3)
	add(w, api.MaxTime, 1)
	add(w, api.MaxTime-1, 2)
	same(t, "ahead of it", w.Advance(api.MaxTime-1), []Due[int]{{api.MaxTime - 1, 2, 2}})
	same(t, "beyond it", w.Advance(math.MaxInt), []Due[int]{{api.MaxTime, 1, 1}})
	equal(t, "now", w.Now(), api.MaxTime)
	equal(t, "still taken", add(w, 4, 3), added{3, api.OK})
	equal(t, "for now", next(w), coming{api.MaxTime, true})
	equal(t, "beyond, refused", add(w, api.MaxTime+1, 3), added{0, api.ErrArg})
	same(t, "at the end of time", w.Advance(0), []Due[int]{{api.MaxTime, 3, 3}})
}

func TestP22Next(t *testing.T) {
	w := made[int](t, 9)
	add(w, 70000, 1)
	equal(t, "one", next(w), coming{70000, true})
	add(w, 70001, 2)
	equal(t, "not a later one", next(w), coming{70000, true})
	add(w, 300, 3)
	equal(t, "an earlier one", next(w), coming{300, true})
	w.Cancel(3)
	equal(t, "cancelled", next(w), coming{70000, true})
	w.Cancel(1)
	equal(t, "cancelled again", next(w), coming{70001, true})
	w.Advance(70000)
	equal(t, "it has not come yet", next(w), coming{70001, true})
	add(w, 0, 4)
	equal(t, "now", next(w), coming{70000, true})
	equal(t, "it changes nothing", next(w), coming{70000, true})
	equal(t, "nor how many wait", w.Len(), 2)
}

func TestP22Nil(t *testing.T) {
	var w *Wheel[int]
	equal(t, "Add", add(w, 0, 1), added{0, api.ErrFull})
	equal(t, "Add at MaxTime", add(w, api.MaxTime, 1), added{0, api.ErrFull})
	equal(t, "Add below 0", add(w, -1, 1), added{0, api.ErrArg})
	equal(t, "Add above MaxTime", add(w, api.MaxTime+1, 1), added{0, api.ErrArg})
	equal(t, "Cancel", w.Cancel(1), api.ErrNone)
	same(t, "Advance", w.Advance(5), nil)
	equal(t, "Next", next(w), coming{0, false})
	equal(t, "Now", w.Now(), 0)
	equal(t, "Len", w.Len(), 0)
}

// TestP22Zero: a Wheel that New did not make has no room, and does not panic.
func TestP22Zero(t *testing.T) {
	var w Wheel[int]
	equal(t, "Add", add(&w, 0, 1), added{0, api.ErrFull})
	equal(t, "Cancel", w.Cancel(1), api.ErrNone)
	same(t, "Advance", w.Advance(5), nil)
	equal(t, "Next", next(&w), coming{0, false})
}

// list is a wheel that goes through all that wait, each time.
type list struct {
	now, lastID int
	waiting     []Due[int]
}

func (l *list) add(at, v int) int {
	l.lastID++
	l.waiting = append(l.waiting, Due[int]{max(at, l.now), l.lastID, v})
	slices.SortStableFunc(l.waiting, func(a, b Due[int]) int { return a.At - b.At })
	return l.lastID
}

func (l *list) cancel(id int) api.Errno {
	i := slices.IndexFunc(l.waiting, func(d Due[int]) bool { return d.ID == id })
	if i < 0 {
		return api.ErrNone
	}
	l.waiting = slices.Delete(l.waiting, i, i+1)
	return api.OK
}

func (l *list) advance(to int) []Due[int] {
	l.now = max(l.now, min(to, api.MaxTime))
	n := 0
	for n < len(l.waiting) && l.waiting[n].At <= l.now {
		n++
	}
	came := slices.Clone(l.waiting[:n])
	l.waiting = slices.Clone(l.waiting[n:])
	return came
}

func (l *list) next() coming {
	if len(l.waiting) == 0 {
		return coming{}
	}
	return coming{l.waiting[0].At, true}
}

// step does one thing with both.
func step(t *testing.T, d *draws, w *Wheel[int], l *list, span int) {
	t.Helper()
	switch d.below(8) {
	case 0, 1, 2, 3:
		at := min(l.now+d.below(span), api.MaxTime)
		if d.below(8) == 0 {
			at = d.time()
		}
		if len(l.waiting) == 60 {
			equal(t, "Add, full", add(w, at, 0), added{0, api.ErrFull})
			return
		}
		v := d.below(1000)
		equal(t, "Add", add(w, at, v), added{l.add(at, v), api.OK})
	case 4, 5:
		id := d.below(l.lastID + 2)
		if len(l.waiting) > 0 && d.below(2) == 0 {
			id = l.waiting[d.below(len(l.waiting))].ID
		}
		equal(t, "Cancel", w.Cancel(id), l.cancel(id))
	default:
		to := l.now + d.below(span)
		if d.below(16) == 0 && len(l.waiting) > 0 {
			to = l.waiting[d.below(len(l.waiting))].At
		}
		same(t, "Advance", w.Advance(to), l.advance(to))
	}
}

func TestP22AsAList(t *testing.T) {
	for round := range 400 {
		d := draws(round)
		w, l := made[int](t, 60), &list{}
		span := 1 << (1 + d.below(30))
		for range 300 {
			step(t, &d, w, l, span)
			equal(t, "Next", next(w), l.next())
			equal(t, "Now", w.Now(), l.now)
			equal(t, "Len", w.Len(), len(l.waiting))
		}
		if t.Failed() {
			t.Fatalf("in round %d", round)
		}
	}
}

func TestP22Edges(t *testing.T) {
	w, l := made[int](t, 1000), &list{}
	for i, at := range append(edges(), edges()...) {
		equal(t, "Add", add(w, at, i), added{l.add(at, i), api.OK})
	}
	steps := edges()
	slices.Sort(steps)
	for _, at := range steps {
		for _, near := range []int{at - 1, at, at + 1} {
			same(t, "Advance", w.Advance(near), l.advance(near))
			equal(t, "Next", next(w), l.next())
		}
	}
	equal(t, "all came", w.Len(), 0)
}

// filled has the same in it, whenever it is called with the same number.
func filled(t *testing.T, round int) *Wheel[int] {
	t.Helper()
	d := draws(round)
	w := made[int](t, 300)
	for i := range 300 {
		at := d.time() >> d.below(50)
		if d.below(3) == 0 {
			at = d.below(100)
		}
		w.Add(at, i)
	}
	return w
}

func TestP23AnySteps(t *testing.T) {
	for round := range 100 {
		d := draws(round + 1000)
		whole := filled(t, round).Advance(api.MaxTime)
		equal(t, "all came", len(whole), 300)
		w := filled(t, round)
		var bySteps []Due[int]
		for w.Now() < api.MaxTime {
			bySteps = append(bySteps, w.Advance(w.Now()+d.below(1<<d.below(50)+1))...)
			if at, ok := w.Next(); ok && d.below(2) == 0 {
				bySteps = append(bySteps, w.Advance(at-d.below(2))...)
			} else if !ok {
				w.Advance(api.MaxTime)
			}
		}
		same(t, "by steps", bySteps, whole)
		w = filled(t, round)
		var byNext []Due[int]
		for at, ok := w.Next(); ok; at, ok = w.Next() {
			byNext = append(byNext, w.Advance(at)...)
		}
		same(t, "by Next", byNext, whole)
	}
}

func TestP23EachTick(t *testing.T) {
	whole, ticks := made[int](t, 2000), made[int](t, 2000)
	for i := range 2000 {
		whole.Add(i*i%4099, i)
		ticks.Add(i*i%4099, i)
	}
	var came []Due[int]
	for to := range 4099 {
		for _, due := range ticks.Advance(to) {
			equal(t, "at its time", due.At, to)
			came = append(came, due)
		}
	}
	same(t, "tick by tick", came, whole.Advance(4099))
}

func TestP23NewMemory(t *testing.T) {
	w := made[int](t, 9)
	add(w, 1, 10)
	add(w, 1, 11)
	add(w, 2, 20)
	add(w, 2, 21)
	first := w.Advance(1)
	second := w.Advance(2)
	first[0], first[1] = Due[int]{}, Due[int]{}
	_ = append(first[:1:cap(first)], Due[int]{7, 7, 7}, Due[int]{7, 7, 7})
	same(t, "the second", second, []Due[int]{{2, 3, 20}, {2, 4, 21}})
	kept := slices.Clone(second)
	add(w, 3, 30)
	w.Advance(3)
	same(t, "the second, after a third", second, kept)
}

func TestP23KeptAsTheyAre(t *testing.T) {
	w := made[[]int](t, 3)
	mine := []int{1, 2, 3}
	w.Add(4, mine)
	w.Add(4, nil)
	came := w.Advance(4)
	equal(t, "the same list", &came[0].V[0], &mine[0])
	equal(t, "nil stays nil", came[1].V == nil, true)
}

func TestP23NothingInCommon(t *testing.T) {
	a, b := made[int](t, 3), made[int](t, 3)
	add(a, 5, 1)
	equal(t, "numbers of its own", add(b, 6, 2), added{1, api.OK})
	a.Advance(9)
	equal(t, "a time of its own", b.Now(), 0)
	equal(t, "none of the other's", b.Len(), 1)
}

// TestP21Most fills a wheel to its most, far ahead and near together, and empties it by each way.
func TestP21Most(t *testing.T) {
	const most = 100000
	w := made[int](t, most)
	for i := range most {
		at := api.MaxTime - i/4
		if i%2 == 0 {
			at = 77
		}
		equal(t, "Add", add(w, at, i), added{i + 1, api.OK})
	}
	equal(t, "full", add(w, 0, 0), added{0, api.ErrFull})
	for i := range most / 4 {
		equal(t, "Cancel", w.Cancel(2*i+1), api.OK)
		equal(t, "Next", next(w), coming{77, true})
	}
	equal(t, "those of one time", len(w.Advance(77)), most/4)
	for i := range most / 4 {
		at, ok := w.Next()
		equal(t, "there", ok, true)
		equal(t, "Cancel", w.Cancel(most-2*i), api.OK)
		equal(t, "the earliest was cancelled", at, api.MaxTime-(most-2*i-1)/4)
	}
	came := w.Advance(api.MaxTime)
	equal(t, "the rest", len(came), most/4)
	equal(t, "in order", slices.IsSortedFunc(came, func(a, b Due[int]) int { return cmp.Or(a.At-b.At, a.ID-b.ID) }), true)
	equal(t, "empty", w.Len(), 0)
}

// TestP23NothingIsKept: what has come, or was cancelled, leaves nothing behind, and few buckets are around what waits.
func TestP23NothingIsKept(t *testing.T) {
	w := filled(t, 5)
	if n := buckets(w.all); n >= 2*300 {
		t.Errorf("%d buckets for 300 timers", n)
	}
	for id := 1; id <= 300; id += 2 {
		w.Cancel(id)
	}
	if n := buckets(w.all); n >= 2*150 {
		t.Errorf("%d buckets for 150 timers", n)
	}
	w.Advance(50)
	for id := 1; id <= 300; id++ {
		w.Cancel(id)
	}
	equal(t, "no bucket", w.all, nil)
	equal(t, "no timer", len(w.waiting), 0)
}

func buckets[T any](b *bucket[T]) int {
	if b == nil {
		return 0
	}
	n := 1
	for _, inner := range b.inner {
		n += buckets(inner)
	}
	return n
}
