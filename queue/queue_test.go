package queue

import (
	"math"
	"slices"
	"testing"

	"mizzen/api"
)

func equal[T comparable](t *testing.T, what string, got, want T) {
	t.Helper()
	if got != want {
		t.Errorf("%s: got %v, want %v", what, got, want)
	}
}

// lists holds two lists, of which nil is as good as an empty one.
func lists[T comparable](t *testing.T, what string, got, want []T) {
	t.Helper()
	if !slices.Equal(got, want) {
		t.Errorf("%s: got %d: %v, want %d: %v", what, len(got), short(got), len(want), short(want))
	}
}

// short is the first ones of a list, so that what fails is told in a few lines.
func short[T any](list []T) []T {
	return list[:min(len(list), 20)]
}

// draws is a rule for numbers.
type draws uint64

func (d *draws) below(n int) int {
	*d = *d*6364136223846793005 + 1442695040888963407
	return int(uint64(*d)>>33) % n
}

// thing is one with a name and so many bytes.
type thing struct {
	name string
	size int
}

func (v thing) Bytes() int { return v.size }

// told is what Pop and Peek answer, and Remove but for the prio, in one.
type told[T any] struct {
	v    T
	prio int
	ok   bool
}

func pop[T Sized](q *Queue[T]) told[T] {
	v, prio, ok := q.Pop()
	return told[T]{v, prio, ok}
}

func peek[T Sized](q *Queue[T]) told[T] {
	v, prio, ok := q.Peek()
	return told[T]{v, prio, ok}
}

func remove[T Sized](q *Queue[T], prio, k int) told[T] {
	v, ok := q.Remove(prio, k)
	return told[T]{v, 0, ok}
}

func at[T Sized](q *Queue[T], prio, k int) told[T] {
	v, ok := q.At(prio, k)
	return told[T]{v, 0, ok}
}

// made is an empty one.
func made[T Sized](t *testing.T, room int) *Queue[T] {
	t.Helper()
	q, e := New[T](room)
	if q == nil || e != api.OK {
		t.Fatalf("New(%d): got %v, %v", room, q, e)
	}
	return q
}

// pushes puts these into a line.
func pushes[T Sized](t *testing.T, q *Queue[T], prio int, l ...T) {
	t.Helper()
	for _, v := range l {
		equal(t, "Push", q.Push(prio, v), api.OK)
	}
}

// names are things of a byte each.
func names(l ...string) []thing {
	var all []thing
	for _, name := range l {
		all = append(all, thing{name, 1})
	}
	return all
}

// stands holds all that can be told of a queue without a turn against its lines; their bytes are told as they count.
func stands[T interface {
	comparable
	Sized
}](t *testing.T, what string, q *Queue[T], used int, want [api.Prios][]T) {
	t.Helper()
	first, count := told[T]{}, 0
	for prio, line := range want {
		lists(t, what+": Line", q.Line(prio), line)
		equal(t, what+": Count", q.Count(prio), len(line))
		equal(t, what+": At ahead of the first", at(q, prio, -1), told[T]{})
		for k, v := range line {
			equal(t, what+": At", at(q, prio, k), told[T]{v, 0, true})
		}
		equal(t, what+": At behind the last", at(q, prio, len(line)), told[T]{})
		count += len(line)
		if len(line) > 0 {
			first = told[T]{line[0], prio, true}
		}
	}
	equal(t, what+": Len", q.Len(), count)
	equal(t, what+": Used", q.Used(), used)
	equal(t, what+": Peek", peek(q), first)
}

// noPrios are those of no line.
var noPrios = []int{-1, -8, math.MinInt, 8, 9, 1 << 32, 1<<32 + 3, math.MaxInt}

func TestP121New(t *testing.T) {
	for _, room := range []int{-1, math.MinInt, 1<<40 + 1, 1 << 50, math.MaxInt} {
		q, e := New[thing](room)
		equal(t, "error", e, api.ErrArg)
		equal(t, "beside an error", q, nil)
	}
	for _, room := range []int{0, 1, 1500, 1 << 30, 1<<40 - 1, 1 << 40} {
		q := made[thing](t, room)
		stands(t, "an empty one", q, 0, [api.Prios][]thing{})
		equal(t, "Pop of an empty one", pop(q), told[thing]{})
		equal(t, "Remove of an empty one", remove(q, 0, 0), told[thing]{})
	}
}

// TestP121Example: the chapter's.
func TestP121Example(t *testing.T) {
	a, b := thing{"a", 1}, thing{"b", 1}
	q := made[thing](t, 2)
	pushes(t, q, 0, a)
	pushes(t, q, 7, b)
	equal(t, "Pop", pop(q), told[thing]{b, 7, true})
	equal(t, "Pop again", pop(q), told[thing]{a, 0, true})
	equal(t, "Pop of nothing", pop(q), told[thing]{})
}

func TestP121Push(t *testing.T) {
	q := made[thing](t, 10)
	var want [api.Prios][]thing
	used := 0
	for i, prio := range []int{3, 0, 7, 3, 5, 7, 0, 3, 1} {
		v := thing{string(rune('a' + i)), 1}
		pushes(t, q, prio, v)
		want[prio] = append(want[prio], v)
		used++
		stands(t, "pushed", q, used, want)
	}
}

func TestP121PushNoPrio(t *testing.T) {
	q := made[thing](t, 5)
	v := thing{"a", 3}
	for _, prio := range noPrios {
		equal(t, "no such line", q.Push(prio, v), api.ErrArg)
		equal(t, "no such line, and no room", q.Push(prio, thing{"b", 6}), api.ErrArg)
	}
	stands(t, "nothing changed", q, 0, [api.Prios][]thing{})
	for prio := range api.Prios {
		q := made[thing](t, 5)
		pushes(t, q, prio, v)
		equal(t, "Peek", peek(q), told[thing]{v, prio, true})
		for _, prio := range noPrios {
			equal(t, "no such line", q.Push(prio, thing{}), api.ErrArg)
		}
		equal(t, "Len", q.Len(), 1)
	}
}

// TestP121Full: room is for all lines together, to the last byte.
func TestP121Full(t *testing.T) {
	a, b, c := thing{"a", 4}, thing{"b", 5}, thing{"c", 1}
	q := made[thing](t, 10)
	pushes(t, q, 0, a)
	pushes(t, q, 7, b)
	for prio := range api.Prios {
		equal(t, "a byte too many", q.Push(prio, thing{"z", 2}), api.ErrFull)
		equal(t, "all too many", q.Push(prio, thing{"z", math.MaxInt}), api.ErrFull)
	}
	stands(t, "nothing changed", q, 9, [api.Prios][]thing{0: {a}, 7: {b}})
	pushes(t, q, 3, c)
	full := [api.Prios][]thing{0: {a}, 3: {c}, 7: {b}}
	stands(t, "to the last byte", q, 10, full)
	equal(t, "one more", q.Push(7, c), api.ErrFull)
	stands(t, "nothing changed", q, 10, full)

	empty := thing{"e", 0}
	pushes(t, q, 7, empty)
	stands(t, "without bytes", q, 10, [api.Prios][]thing{0: {a}, 3: {c}, 7: {b, empty}})
	equal(t, "Pop", pop(q), told[thing]{b, 7, true})
	equal(t, "Used", q.Used(), 5)
	equal(t, "a byte more than left", q.Push(1, thing{"z", 6}), api.ErrFull)
	pushes(t, q, 1, b)
	equal(t, "Remove", remove(q, 0, 0), told[thing]{a, 0, true})
	equal(t, "a byte more than left again", q.Push(1, b), api.ErrFull)
	pushes(t, q, 1, a)
	stands(t, "full again", q, 10, [api.Prios][]thing{1: {b, a}, 3: {c}, 7: {empty}})
}

func TestP121NoRoom(t *testing.T) {
	q := made[thing](t, 0)
	for _, size := range []int{1, 2, 1 << 30, math.MaxInt} {
		equal(t, "Push", q.Push(0, thing{"a", size}), api.ErrFull)
	}
	empty, less := thing{"b", 0}, thing{"c", -1}
	pushes(t, q, 4, empty, less)
	stands(t, "without bytes", q, 0, [api.Prios][]thing{4: {empty, less}})
}

// TestP121Bytes: below 0 they count as 0, above 2^30 as 2^30.
func TestP121Bytes(t *testing.T) {
	for _, c := range []struct{ size, counts int }{
		{math.MinInt, 0}, {-1 << 32, 0}, {-1, 0}, {0, 0}, {1, 1}, {1500, 1500},
		{1<<30 - 1, 1<<30 - 1}, {1 << 30, 1 << 30}, {1<<30 + 1, 1 << 30},
		{1 << 32, 1 << 30}, {1<<32 + 5, 1 << 30}, {1 << 40, 1 << 30}, {math.MaxInt, 1 << 30},
	} {
		v := thing{"a", c.size}
		q := made[thing](t, c.counts)
		pushes(t, q, 2, v)
		stands(t, "what fits just so", q, c.counts, [api.Prios][]thing{2: {v}})
		equal(t, "Pop", pop(q), told[thing]{v, 2, true})
		equal(t, "Used", q.Used(), 0)
		if c.counts > 0 {
			q = made[thing](t, c.counts-1)
			equal(t, "a byte too many", q.Push(2, v), api.ErrFull)
			stands(t, "nothing changed", q, 0, [api.Prios][]thing{})
		}
	}
	// The greatest ones below the least ones: nothing runs over, nothing is paid back.
	q := made[thing](t, 1<<31)
	pushes(t, q, 0, thing{"a", math.MaxInt}, thing{"b", math.MinInt}, thing{"c", math.MaxInt})
	equal(t, "Used", q.Used(), 1<<31)
	equal(t, "one more", q.Push(0, thing{"d", 1}), api.ErrFull)
	pop(q)
	equal(t, "Used", q.Used(), 1<<30)
	pop(q)
	equal(t, "Used", q.Used(), 1<<30)
}

func TestP121MostRoom(t *testing.T) {
	q := made[thing](t, 1<<40)
	for i := range 1 << 10 {
		pushes(t, q, i%api.Prios, thing{"a", math.MaxInt})
	}
	equal(t, "Used", q.Used(), 1<<40)
	for prio := range api.Prios {
		equal(t, "a byte more", q.Push(prio, thing{"a", 1}), api.ErrFull)
	}
	for range 1 << 10 {
		pop(q)
	}
	equal(t, "Used", q.Used(), 0)
	equal(t, "Len", q.Len(), 0)
}

// changing is one whose bytes are others each time; it counts how often it is asked.
type changing struct{ asked int }

func (v *changing) Bytes() int {
	v.asked++
	return v.asked
}

// TestP121Asked: bytes are asked once, when it is pushed.
func TestP121Asked(t *testing.T) {
	a, b, c := &changing{}, &changing{}, &changing{asked: 7}
	q := made[*changing](t, 10)
	for _, prio := range noPrios {
		equal(t, "no such line", q.Push(prio, a), api.ErrArg)
	}
	equal(t, "not pushed", a.asked, 0)
	pushes(t, q, 1, a)
	pushes(t, q, 5, b)
	pushes(t, q, 5, c)
	equal(t, "Used", q.Used(), 10)
	d := &changing{}
	equal(t, "no room", q.Push(5, d), api.ErrFull)
	equal(t, "refused", d.asked, 1)
	equal(t, "Peek", peek(q), told[*changing]{b, 5, true})
	lists(t, "Line", q.Line(5), []*changing{b, c})
	equal(t, "Len", q.Len(), 3)
	equal(t, "Remove", remove(q, 5, 1), told[*changing]{c, 0, true})
	equal(t, "Used, as it was told", q.Used(), 2)
	equal(t, "Pop", pop(q), told[*changing]{b, 5, true})
	equal(t, "Used, as it was told", q.Used(), 1)
	equal(t, "Pop", pop(q), told[*changing]{a, 1, true})
	equal(t, "Used", q.Used(), 0)
	equal(t, "asked", [3]int{a.asked, b.asked, c.asked}, [3]int{1, 1, 8})
	pushes(t, q, 1, a)
	equal(t, "pushed again, asked again", q.Used(), 2)
}

// refusing is one whose Bytes panics, if it is nil.
type refusing struct{ size int }

func (v *refusing) Bytes() int { return v.size }

// TestP121Panics: no call panics; what can't tell its bytes is refused, and changes nothing.
func TestP121Panics(t *testing.T) {
	var none *refusing
	q := made[*refusing](t, 10)
	good := &refusing{4}
	for range 3 {
		equal(t, "Push", q.Push(3, none), api.ErrArg)
	}
	pushes(t, q, 3, good)
	equal(t, "Push", q.Push(3, none), api.ErrArg)
	equal(t, "no such line", q.Push(8, none), api.ErrArg)
	stands(t, "nothing changed", q, 4, [api.Prios][]*refusing{3: {good}})

	var nobody *Queue[*refusing]
	equal(t, "a nil Queue asks nothing", nobody.Push(3, none), api.ErrFull)

	s := made[Sized](t, 10)
	equal(t, "nil", s.Push(0, nil), api.ErrArg)
	equal(t, "a nil one of a type", s.Push(0, none), api.ErrArg)
	pushes[Sized](t, s, 0, good, thing{"a", 5})
	stands(t, "others", s, 9, [api.Prios][]Sized{0: {good, thing{"a", 5}}})
}

// meddling is one that uses the queue while it is asked.
type meddling struct {
	size int
	with func()
}

func (v *meddling) Bytes() int {
	if v.with != nil {
		v.with()
	}
	return v.size
}

// TestP121Meddles: what a Bytes does to the queue is done ahead of the push.
func TestP121Meddles(t *testing.T) {
	q := made[*meddling](t, 10)
	a, b := &meddling{size: 6}, &meddling{size: 5}
	pushes(t, q, 2, a)
	pushes(t, q, 2, &meddling{size: 10, with: func() { pop(q) }})
	equal(t, "room was made", q.Used(), 10)
	equal(t, "Len", q.Len(), 1)
	pop(q)
	fills := &meddling{size: 6, with: func() { pushes(t, q, 7, b) }}
	equal(t, "room was taken", q.Push(2, fills), api.ErrFull)
	stands(t, "taken", q, 5, [api.Prios][]*meddling{7: {b}})
	fills.size = 0
	pushes(t, q, 7, fills)
	stands(t, "behind it", q, 10, [api.Prios][]*meddling{7: {b, b, fills}})
}

// TestP121Pop: the highest line goes first, in it what came first, whatever came when.
func TestP121Pop(t *testing.T) {
	q := made[thing](t, 100)
	pushes(t, q, 0, names("a", "b")...)
	pushes(t, q, 6, names("c", "d", "e")...)
	pushes(t, q, 5, names("f")...)
	pushes(t, q, 0, names("g")...)
	for i, want := range []told[thing]{
		{thing{"c", 1}, 6, true}, {thing{"d", 1}, 6, true}, {thing{"e", 1}, 6, true},
		{thing{"f", 1}, 5, true}, {thing{"a", 1}, 0, true},
	} {
		equal(t, "Peek", peek(q), want)
		equal(t, "Peek again", peek(q), want)
		equal(t, "Pop", pop(q), want)
		equal(t, "Len", q.Len(), 6-i)
		equal(t, "Used", q.Used(), 6-i)
	}
	pushes(t, q, 7, names("h")...)
	equal(t, "a higher one", pop(q), told[thing]{thing{"h", 1}, 7, true})
	pushes(t, q, 0, names("i")...)
	for _, name := range []string{"b", "g", "i"} {
		equal(t, "Pop", pop(q), told[thing]{thing{name, 1}, 0, true})
	}
	for range 3 {
		equal(t, "Pop of an empty one", pop(q), told[thing]{})
		stands(t, "empty", q, 0, [api.Prios][]thing{})
	}
	// A zero one is something, too.
	pushes(t, q, 3, thing{})
	equal(t, "Peek of a zero one", peek(q), told[thing]{thing{}, 3, true})
	equal(t, "Pop of a zero one", pop(q), told[thing]{thing{}, 3, true})
	equal(t, "Pop of an empty one", pop(q), told[thing]{})
}

// TestP121Prios: each two lines.
func TestP121Prios(t *testing.T) {
	for low := range api.Prios {
		for high := low + 1; high < api.Prios; high++ {
			q := made[thing](t, 10)
			pushes(t, q, low, thing{"a", 1})
			pushes(t, q, high, thing{"b", 2})
			pushes(t, q, low, thing{"c", 3})
			equal(t, "Pop", pop(q), told[thing]{thing{"b", 2}, high, true})
			equal(t, "Pop", pop(q), told[thing]{thing{"a", 1}, low, true})
			equal(t, "Pop", pop(q), told[thing]{thing{"c", 3}, low, true})
		}
	}
}

func TestP121Line(t *testing.T) {
	q := made[thing](t, 100)
	pushes(t, q, 0, names("a", "b", "c")...)
	pushes(t, q, 7, names("d")...)
	for _, prio := range noPrios {
		lists(t, "no such line", q.Line(prio), nil)
	}
	stands(t, "lines", q, 4, [api.Prios][]thing{0: names("a", "b", "c"), 7: names("d")})
	stands(t, "lines again", q, 4, [api.Prios][]thing{0: names("a", "b", "c"), 7: names("d")})
}

// TestP121Remove: each one of lines of each length, which begin at each place of their ring.
func TestP121Remove(t *testing.T) {
	for count := 1; count <= 9; count++ {
		for k := range count {
			for gone := range 9 {
				q := made[thing](t, 1000)
				for range gone {
					pushes(t, q, 4, thing{"z", 9})
					pop(q)
				}
				var want [api.Prios][]thing
				used := 0
				for i := range count {
					want[4] = append(want[4], thing{string(rune('a' + i)), i + 1})
					used += i + 1
				}
				pushes(t, q, 4, want[4]...)
				equal(t, "Remove", remove(q, 4, k), told[thing]{want[4][k], 0, true})
				want[4] = slices.Delete(want[4], k, k+1)
				stands(t, "removed", q, used-k-1, want)
				equal(t, "Remove behind the last", remove(q, 4, count-1), told[thing]{})
				last := thing{"y", 0}
				pushes(t, q, 4, last)
				want[4] = append(want[4], last)
				stands(t, "pushed again", q, used-k-1, want)
			}
		}
	}
}

func TestP121RemoveNone(t *testing.T) {
	q := made[thing](t, 100)
	pushes(t, q, 0, names("a", "b", "c")...)
	pushes(t, q, 7, names("d")...)
	want := [api.Prios][]thing{0: names("a", "b", "c"), 7: names("d")}
	for _, k := range []int{-1, -3, math.MinInt, 3, 4, 1 << 32, 1<<32 + 1, math.MaxInt} {
		for prio := range api.Prios {
			equal(t, "no such one", remove(q, prio, k), told[thing]{})
		}
	}
	for _, prio := range noPrios {
		for _, k := range []int{0, 1, -1, math.MinInt, math.MaxInt} {
			equal(t, "no such line", remove(q, prio, k), told[thing]{})
		}
	}
	for prio := 1; prio < 7; prio++ {
		equal(t, "an empty line", remove(q, prio, 0), told[thing]{})
	}
	stands(t, "nothing changed", q, 4, want)
	equal(t, "the last one of line 7", remove(q, 7, 0), told[thing]{thing{"d", 1}, 0, true})
	equal(t, "it again", remove(q, 7, 0), told[thing]{})
	equal(t, "line 0 goes first then", pop(q), told[thing]{thing{"a", 1}, 0, true})
	equal(t, "the first one now", remove(q, 0, 0), told[thing]{thing{"b", 1}, 0, true})
	equal(t, "behind the last", remove(q, 0, 1), told[thing]{})
	stands(t, "what is left", q, 1, [api.Prios][]thing{0: names("c")})
}

func TestP121Nil(t *testing.T) {
	var q *Queue[thing]
	for range 2 {
		for prio := range api.Prios {
			equal(t, "Push", q.Push(prio, thing{"a", 1}), api.ErrFull)
			equal(t, "Push of nothing", q.Push(prio, thing{}), api.ErrFull)
			equal(t, "Remove", remove(q, prio, 0), told[thing]{})
			lists(t, "Line", q.Line(prio), nil)
		}
		for _, prio := range noPrios {
			equal(t, "Push, no such line", q.Push(prio, thing{"a", 1}), api.ErrArg)
			equal(t, "Remove, no such line", remove(q, prio, 0), told[thing]{})
			lists(t, "Line, no such line", q.Line(prio), nil)
		}
		equal(t, "Pop", pop(q), told[thing]{})
		equal(t, "Peek", peek(q), told[thing]{})
		equal(t, "Len", q.Len(), 0)
		equal(t, "Used", q.Used(), 0)
	}
}

// TestCountAndAt: what else is told of a line, of those that are none, and of none at all.
func TestCountAndAt(t *testing.T) {
	q := made[thing](t, 100)
	pushes(t, q, 0, names("a", "b")...)
	pushes(t, q, 7, names("c")...)
	for _, some := range []*Queue[thing]{q, {}, nil} {
		for _, prio := range noPrios {
			equal(t, "Count of no line", some.Count(prio), 0)
			for _, k := range []int{0, 1, -1, math.MinInt, math.MaxInt} {
				equal(t, "At of no line", at(some, prio, k), told[thing]{})
			}
		}
		for _, k := range []int{-1, math.MinInt, 2, 1 << 32, math.MaxInt} {
			for prio := range api.Prios {
				equal(t, "no such one", at(some, prio, k), told[thing]{})
			}
		}
	}
	stands(t, "nothing changed", q, 3, [api.Prios][]thing{0: names("a", "b"), 7: names("c")})
	for _, none := range []*Queue[thing]{{}, nil} {
		for prio := range api.Prios {
			equal(t, "Count", none.Count(prio), 0)
			equal(t, "At", at(none, prio, 0), told[thing]{})
		}
	}
}

// TestP121Zero: a Queue that New did not make has no room, and does not panic.
func TestP121Zero(t *testing.T) {
	var q Queue[thing]
	equal(t, "Push", q.Push(0, thing{"a", 1}), api.ErrFull)
	equal(t, "Push, no such line", q.Push(8, thing{}), api.ErrArg)
	equal(t, "Remove", remove(&q, 0, 0), told[thing]{})
	equal(t, "Pop", pop(&q), told[thing]{})
	stands(t, "an empty one", &q, 0, [api.Prios][]thing{})
}

// plain is a queue that goes through all its lines, each time.
type plain struct {
	room  int
	lines [api.Prios][]thing
}

func (p *plain) used() int {
	sum := 0
	for _, line := range p.lines {
		for _, v := range line {
			sum += v.size
		}
	}
	return sum
}

func (p *plain) push(prio int, v thing) api.Errno {
	if prio < 0 || prio > 7 {
		return api.ErrArg
	}
	if p.used()+v.size > p.room {
		return api.ErrFull
	}
	p.lines[prio] = append(p.lines[prio], v)
	return api.OK
}

func (p *plain) remove(prio, k int) told[thing] {
	if prio < 0 || prio > 7 || k < 0 || k >= len(p.lines[prio]) {
		return told[thing]{}
	}
	v := p.lines[prio][k]
	p.lines[prio] = slices.Delete(p.lines[prio], k, k+1)
	return told[thing]{v, 0, true}
}

func (p *plain) pop() told[thing] {
	for prio := 7; prio >= 0; prio-- {
		if len(p.lines[prio]) > 0 {
			first := p.remove(prio, 0)
			first.prio = prio
			return first
		}
	}
	return told[thing]{}
}

// step does one thing with both; of eight, so many push.
func step(t *testing.T, d *draws, q *Queue[thing], p *plain, pushing, prios int) {
	t.Helper()
	prio := d.below(prios)
	if d.below(20) == 0 {
		prio = d.below(12) - 2
	}
	switch c := d.below(8); {
	case c < pushing:
		v := thing{string(rune('a' + d.below(26))), d.below(10)}
		equal(t, "Push", q.Push(prio, v), p.push(prio, v))
	case c%2 == 0:
		equal(t, "Pop", pop(q), p.pop())
	default:
		most := 3
		if prio >= 0 && prio < 8 {
			most = len(p.lines[prio])
		}
		k := d.below(most+3) - 1
		equal(t, "Remove", remove(q, prio, k), p.remove(prio, k))
	}
}

// TestP122Steps: step by step, against plain lines, while they fill and while they empty; Used is never above room.
func TestP122Steps(t *testing.T) {
	for _, prios := range []int{1, 2, 8} {
		for _, room := range []int{0, 1, 9, 30, 400} {
			d := draws(room)
			q, p := made[thing](t, room), &plain{room: room}
			for _, pushing := range []int{7, 3, 6, 1, 5, 0, 4} {
				for range 400 {
					step(t, &d, q, p, pushing, prios)
					stands(t, "stands", q, p.used(), p.lines)
					equal(t, "Used is above room", q.Used() > room, false)
					if t.Failed() {
						t.FailNow()
					}
				}
			}
		}
	}
}

// TestP122FirstComes: what came first goes first, in long lines that go on and on.
func TestP122FirstComes(t *testing.T) {
	for _, standing := range []int{0, 1, 3, 4, 5, 100, 1000} {
		q := made[number](t, 0)
		pushed := 0
		for ; pushed < standing; pushed++ {
			pushes(t, q, pushed%2, number(pushed))
		}
		for range 5000 {
			pushes(t, q, pushed%2, number(pushed))
			pushed++
			v, prio, ok := q.Pop()
			equal(t, "Pop", ok, true)
			equal(t, "Pop: its line", int(v)%2, prio)
			equal(t, "Len", q.Len(), standing)
		}
		last := [2]number{-1, -1}
		for range standing {
			v, prio, _ := q.Pop()
			equal(t, "in order", v > last[prio], true)
			last[prio] = v
		}
		equal(t, "Len", q.Len(), 0)
	}
}

// TestP122Many: a line of many, of which some go from between.
func TestP122Many(t *testing.T) {
	const many = 100000
	q := made[number](t, 0)
	for i := range many {
		pushes(t, q, 6, number(i))
	}
	for i := many - 7; i >= 0; i -= 1000 {
		equal(t, "Remove", remove(q, 6, i), told[number]{number(i), 0, true})
	}
	for i := range many {
		if (many-7-i)%1000 == 0 {
			continue
		}
		equal(t, "Pop", pop(q), told[number]{number(i), 6, true})
	}
	equal(t, "Pop of nothing", pop(q), told[number]{})
}

// number is one without bytes.
type number int

func (number) Bytes() int { return 0 }

// TestP122NewMemory: what is done to an answer is not done to the queue, nor to another answer.
func TestP122NewMemory(t *testing.T) {
	q := made[thing](t, 100)
	pushes(t, q, 2, names("a", "b", "c")...)
	want := [api.Prios][]thing{2: names("a", "b", "c")}
	one, other := q.Line(2), q.Line(2)
	clear(one)
	_ = append(one[:cap(one)], thing{"z", 1})
	stands(t, "an answer was cleared", q, 3, want)
	lists(t, "another answer", other, want[2])
	pop(q)
	remove(q, 2, 1)
	pushes(t, q, 2, names("d")...)
	lists(t, "an answer of earlier", other, want[2])
	lists(t, "one of now", q.Line(2), names("b", "d"))
}

// TestP122Apart: queues have nothing in common; values are kept as they are.
func TestP122Apart(t *testing.T) {
	q, r := made[*meddling](t, 10), made[*meddling](t, 10)
	a := &meddling{size: 8}
	pushes(t, q, 1, a)
	stands(t, "the other one", r, 0, [api.Prios][]*meddling{})
	pushes(t, r, 1, a)
	a.size = 1
	stands(t, "one", q, 8, [api.Prios][]*meddling{1: {a}})
	pop(q)
	stands(t, "the other one", r, 8, [api.Prios][]*meddling{1: {a}})

	data := make(data, 3, 5)
	s := made[listed](t, 10)
	equal(t, "Push", s.Push(0, listed{data}), api.OK)
	data[1] = 'b'
	got, _, ok := s.Pop()
	equal(t, "Pop", ok, true)
	equal(t, "as it is: of the same memory", &got.data[0], &data[0])
	equal(t, "as it is: its length", len(got.data), 3)
	equal(t, "as it is: its room", cap(got.data), 5)

	great := made[great](t, 10)
	equal(t, "Push of a great one", great.Push(0, [70000]byte{69999: 1}), api.OK)
	v, _, _ := great.Pop()
	equal(t, "a great one", v[69999], 1)
}

type data []byte

type listed struct{ data data }

func (l listed) Bytes() int { return len(l.data) }

type great [70000]byte

func (great) Bytes() int { return 3 }
