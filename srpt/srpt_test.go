package srpt

import (
	"cmp"
	"math"
	"slices"
	"testing"

	"mizzen/api"
)

const (
	// top is the greatest total.
	top = 1 << 30
	// last is the greatest ID.
	last = 1 << 60
	// end is the last time.
	end = 1 << 50
	// full is the greatest budget.
	full = 1 << 40
)

func equal[T comparable](t *testing.T, what string, got, want T) {
	t.Helper()
	if got != want {
		t.Errorf("%s: got %v, want %v", what, got, want)
	}
}

// lists holds two lists against each other.
func lists[T comparable](t *testing.T, what string, got, want []T) {
	t.Helper()
	if !slices.Equal(got, want) {
		t.Errorf("%s: got %v, want %v", what, got, want)
	}
}

// msg is a message, its fields in their order.
func msg(peer int, id uint64, total, have, granted, born int) Msg {
	return Msg{Peer: peer, ID: id, Total: total, Have: have, Granted: granted, Born: born}
}

// granted holds who is granted what.
func granted(t *testing.T, what string, l []Msg, k, budget, share int, want ...Grant) {
	t.Helper()
	got, e := Grants(l, k, budget, share)
	equal(t, what+": error", e, api.OK)
	lists(t, what, got, want)
}

// draws is a rule for numbers.
type draws uint64

func (d *draws) below(n int) int {
	*d = *d*6364136223846793005 + 1442695040888963407
	return int(uint64(*d)>>33) % n
}

// msg is one of few bytes, peers, IDs and times, so that many are alike; one in eight may not be.
func (d *draws) msg() Msg {
	total := d.below(13)
	got := d.below(total + 1)
	m := msg(d.below(3), uint64(1+d.below(3)), total, got, got+d.below(total-got+1), d.below(3))
	switch d.below(40) {
	case 0:
		m.Peer = 8 + d.below(3)
	case 1:
		m.ID = 0
	case 2:
		m.Granted = total + 1 + d.below(3)
	case 3:
		m.Have, m.Granted = m.Granted+1, m.Have
	case 4:
		m.Born = -1 - d.below(3)
	}
	return m
}

func (d *draws) msgs(most int) []Msg {
	l := make([]Msg, d.below(most+1))
	for i := range l {
		l[i] = d.msg()
	}
	return l
}

// waits is what the slow ones ask of a message: that it may be and is not complete.
func waits(m Msg) bool {
	return May(m) && m.Have < m.Total
}

// slowOrder takes the least one of those that are left, again and again.
func slowOrder(l []Msg) []int {
	var order []int
	for {
		least := -1
		for i, m := range l {
			if !waits(m) || slices.Contains(order, i) {
				continue
			}
			if least < 0 || slowKey(l[least]).above(slowKey(m)) {
				least = i
			}
		}
		if least < 0 {
			return order
		}
		order = append(order, least)
	}
}

// key is the numbers by which messages go, the first one first.
type key [3]uint64

func slowKey(m Msg) key {
	return key{uint64(m.Total - m.Have), uint64(m.Peer), m.ID}
}

func (k key) above(o key) bool {
	return slices.Compare(k[:], o[:]) > 0
}

func slowOldest(l []Msg) int {
	oldest := -1
	for i, m := range l {
		if !waits(m) {
			continue
		}
		if oldest < 0 || (key{uint64(l[oldest].Born), uint64(l[oldest].Peer), l[oldest].ID}).above(key{uint64(m.Born), uint64(m.Peer), m.ID}) {
			oldest = i
		}
	}
	return oldest
}

func slowAhead(l []Msg) int {
	sum := 0
	for _, m := range l {
		if waits(m) {
			sum += m.Granted - m.Have
		}
	}
	return sum
}

// slowGrants grants byte by byte.
func slowGrants(l []Msg, k, budget, share int) []Grant {
	now := slices.Clone(l)
	room := max(0, budget-slowAhead(l))
	var turns []int
	more := func(i, most int) {
		for now[i].Granted < now[i].Total && now[i].Granted-now[i].Have < most && room > 0 {
			now[i].Granted++
			room--
			if !slices.Contains(turns, i) {
				turns = append(turns, i)
			}
		}
	}
	order := slowOrder(l)
	order = order[:min(k, len(order))]
	if oldest := slowOldest(l); oldest >= 0 && share > 0 {
		more(oldest, share)
	}
	for _, i := range order {
		more(i, budget/k)
	}
	var grants []Grant
	for _, i := range turns {
		g := Grant{Peer: l[i].Peer, ID: l[i].ID, Upto: now[i].Granted}
		if turn := slices.Index(order, i); turn >= 0 {
			g.Prio = max(0, 6-turn)
		}
		grants = append(grants, g)
	}
	return grants
}

func TestP171May(t *testing.T) {
	may := []Msg{
		msg(0, 1, 0, 0, 0, 0),
		msg(7, last, top, top, top, end),
		msg(7, last, top, 0, top, end),
		msg(3, 5, 9, 4, 4, 2),
		msg(3, 5, 9, 4, 9, 2),
		msg(3, 5, 9, 4, 6, 2),
	}
	for _, m := range may {
		if !May(m) {
			t.Errorf("%v may be", m)
		}
	}
	mayNot := []Msg{
		{},
		msg(-1, 1, 9, 0, 0, 0), msg(8, 1, 9, 0, 0, 0), msg(math.MinInt, 1, 9, 0, 0, 0), msg(math.MaxInt, 1, 9, 0, 0, 0),
		msg(0, 0, 9, 0, 0, 0), msg(0, last+1, 9, 0, 0, 0), msg(0, math.MaxUint64, 9, 0, 0, 0),
		msg(0, 1, -1, 0, 0, 0), msg(0, 1, -1, -1, -1, 0), msg(0, 1, math.MinInt, 0, 0, 0), msg(0, 1, math.MinInt, math.MinInt, math.MinInt, 0),
		msg(0, 1, top+1, 0, 0, 0), msg(0, 1, math.MaxInt, 0, 0, 0), msg(0, 1, math.MaxInt, math.MaxInt, math.MaxInt, 0),
		msg(0, 1, 9, -1, 0, 0), msg(0, 1, 9, math.MinInt, 0, 0),
		msg(0, 1, 9, 3, 2, 0), msg(0, 1, 9, 3, -1, 0), msg(0, 1, 9, 10, 9, 0), msg(0, 1, 9, 0, 10, 0), msg(0, 1, 9, 10, 10, 0), msg(0, 1, 9, 0, math.MaxInt, 0),
		msg(0, 1, 9, 0, 0, -1), msg(0, 1, 9, 0, 0, end+1), msg(0, 1, 9, 0, 0, math.MinInt), msg(0, 1, 9, 0, 0, math.MaxInt),
	}
	for _, m := range mayNot {
		if May(m) {
			t.Errorf("%v may not be", m)
		}
		lists(t, "Order of one that may not be", Order([]Msg{m}), nil)
		equal(t, "Oldest of one that may not be", Oldest([]Msg{m}), -1)
		equal(t, "Ahead of one that may not be", Ahead([]Msg{m}), 0)
		granted(t, "one that may not be", []Msg{m}, 8, full, full)
	}
}

func TestP171Order(t *testing.T) {
	l := []Msg{
		msg(1, 5, 90, 50, 60, 0),    // 40 remain
		msg(0, 2, 30, 0, 0, 0),      // 30
		msg(0, 9, 9, 9, 9, 0),       // none
		msg(5, 1, 40, 10, 10, 0),    // 30, of a greater peer
		msg(0, 1, 30, 0, 30, 0),     // 30, of a lesser ID
		msg(0, 0, 1, 0, 0, 0),       // may not be
		msg(7, last, 31, 30, 31, 0), // 1
		msg(0, 1, 31, 1, 1, 9),      // 30, as the one of place 4
		msg(0, 1, 0, 0, 0, 0),       // none, of an empty one
		msg(0, 1, top, 0, 0, 0),     // the most
	}
	lists(t, "Order", Order(l), []int{6, 4, 7, 1, 3, 0, 9})
	slices.Reverse(l)
	lists(t, "Order, turned", Order(l), []int{3, 2, 5, 8, 6, 9, 0})
	lists(t, "Order of none", Order(nil), nil)
	lists(t, "Order of an empty list", Order([]Msg{}), nil)
	lists(t, "Order of those that are complete", Order([]Msg{l[1], l[7]}), nil)
	// Peer goes ahead of ID, and IDs are held as numbers without a sign, to the last.
	lists(t, "Peer first", Order([]Msg{msg(1, 1, 5, 0, 0, 0), msg(0, last, 5, 0, 0, 0), msg(0, last-1, 5, 0, 0, 0)}), []int{2, 1, 0})
}

// TestP171Alike: where all is alike, the places rise, however many there are.
func TestP171Alike(t *testing.T) {
	l := slices.Repeat([]Msg{msg(2, 3, 50, 10, 20, 4)}, 500)
	for i, place := range Order(l) {
		equal(t, "place", place, i)
	}
	equal(t, "how many", len(Order(l)), 500)
	equal(t, "oldest", Oldest(l), 0)
	equal(t, "ahead", Ahead(l), 5000)
}

func TestP171Oldest(t *testing.T) {
	l := []Msg{
		msg(0, 1, 5, 0, 0, 9),
		msg(3, 4, 5, 0, 0, 2),
		msg(1, 9, 500, 0, 0, 2),
		msg(1, 8, 500, 0, 0, 2),
		msg(1, 8, 5, 0, 0, 2),
		msg(0, 1, 5, 5, 5, 0),
		msg(0, 1, 5, 0, 0, -1),
	}
	equal(t, "Oldest", Oldest(l), 3)
	equal(t, "Oldest, by Peer", Oldest(l[:3]), 2)
	equal(t, "Oldest, by Born", Oldest(l[:2]), 1)
	equal(t, "Oldest of one", Oldest(l[:1]), 0)
	equal(t, "Oldest behind others", Oldest(l[4:]), 0)
	equal(t, "none is open", Oldest(l[5:]), -1)
	equal(t, "none", Oldest(nil), -1)
	equal(t, "times at the ends", Oldest([]Msg{msg(0, 1, 5, 0, 0, end), msg(7, last, 5, 0, 0, 0), msg(0, 1, 5, 0, 0, end-1)}), 1)
	equal(t, "of the last time", Oldest([]Msg{msg(7, last, 5, 0, 0, end), msg(0, 1, 5, 0, 0, end+1)}), 0)
}

func TestP171Ahead(t *testing.T) {
	l := []Msg{msg(0, 1, 9, 0, 5, 0), msg(1, 1, 9, 4, 6, 0), msg(2, 1, 9, 9, 9, 0), msg(8, 1, 9, 0, 9, 0), msg(3, 1, 9, 3, 3, 0), msg(4, 1, 9, 0, 10, 0)}
	equal(t, "Ahead", Ahead(l), 7)
	equal(t, "Ahead of none", Ahead(nil), 0)
	equal(t, "Ahead of the greatest", Ahead([]Msg{msg(0, 1, top, 0, top, 0), msg(0, 1, top, 1, top, 0)}), 2*top-1)
}

// TestP171AheadHeld: the sum is 1's, which goes no further than MaxTime.
func TestP171AheadHeld(t *testing.T) {
	l := slices.Repeat([]Msg{msg(0, 1, top, 0, top, 0)}, end/top+1)
	equal(t, "all but one", Ahead(l[1:]), end)
	equal(t, "all but two", Ahead(l[2:]), end-top)
	equal(t, "all", Ahead(l), end)
}

// TestP171Drawn holds many lists against slow ones.
func TestP171Drawn(t *testing.T) {
	d := draws(171)
	for range 4000 {
		l := d.msgs(20)
		lists(t, "Order", Order(l), slowOrder(l))
		equal(t, "Oldest", Oldest(l), slowOldest(l))
		equal(t, "Ahead", Ahead(l), slowAhead(l))
	}
}

// TestP171Sorted: a long list, held by a sort of its own.
func TestP171Sorted(t *testing.T) {
	d := draws(1710)
	l := d.msgs(3000)
	for len(l) < 1000 {
		l = d.msgs(3000)
	}
	var want []int
	for i, m := range l {
		if waits(m) {
			want = append(want, i)
		}
	}
	slices.SortFunc(want, func(a, b int) int {
		ka, kb := slowKey(l[a]), slowKey(l[b])
		return cmp.Or(slices.Compare(ka[:], kb[:]), cmp.Compare(a, b))
	})
	lists(t, "Order", Order(l), want)
}

func TestP172Refused(t *testing.T) {
	l := []Msg{msg(0, 1, 100, 0, 0, 0)}
	for _, a := range [][3]int{
		{0, 10, 0}, {-1, 10, 0}, {9, 10, 0}, {math.MinInt, 10, 0}, {math.MaxInt, 10, 0},
		{1, -1, 0}, {1, -1, -1}, {1, full + 1, 0}, {1, full + 1, full + 1}, {1, math.MinInt, 0}, {1, math.MinInt, math.MinInt}, {1, math.MaxInt, 0}, {1, math.MaxInt, math.MaxInt},
		{1, 10, -1}, {1, 10, 11}, {1, 10, math.MinInt}, {1, 10, math.MaxInt}, {1, 0, 1}, {8, full, full + 1}, {0, -1, -1},
	} {
		for _, list := range [][]Msg{l, nil} {
			got, e := Grants(list, a[0], a[1], a[2])
			equal(t, "error", e, api.ErrArg)
			lists(t, "beside an error", got, nil)
		}
	}
	for _, a := range [][3]int{{1, 0, 0}, {8, 0, 0}, {1, full, full}, {8, full, 0}, {8, full, full}, {1, 10, 10}} {
		_, e := Grants(l, a[0], a[1], a[2])
		equal(t, "no error", e, api.OK)
		granted(t, "none", nil, a[0], a[1], a[2])
	}
}

func TestP172Example(t *testing.T) {
	granted(t, "example", []Msg{msg(0, 1, 100, 0, 0, 0)}, 1, 40, 0, Grant{0, 1, 40, 6})
}

func TestP172InOrder(t *testing.T) {
	// The shortest is the second, the oldest the third.
	l := []Msg{msg(0, 1, 200, 0, 0, 5), msg(1, 2, 100, 0, 0, 5), msg(2, 3, 300, 0, 0, 1)}
	granted(t, "the first one of order", l, 1, 50, 0, Grant{1, 2, 50, 6})
	granted(t, "the first two", l, 2, 50, 0, Grant{1, 2, 25, 6}, Grant{0, 1, 25, 5})
	granted(t, "a part that is cut", l, 3, 50, 0, Grant{1, 2, 16, 6}, Grant{0, 1, 16, 5}, Grant{2, 3, 16, 4})
	granted(t, "more places than messages", l, 8, 50, 0, Grant{1, 2, 6, 6}, Grant{0, 1, 6, 5}, Grant{2, 3, 6, 4})
	granted(t, "a part that is cut to nothing", l, 8, 7, 0)
	granted(t, "a byte each", l, 8, 8, 0, Grant{1, 2, 1, 6}, Grant{0, 1, 1, 5}, Grant{2, 3, 1, 4})
	granted(t, "no more than all", l, 2, 600, 0, Grant{1, 2, 100, 6}, Grant{0, 1, 200, 5})
	granted(t, "one byte less than all", l, 2, 398, 0, Grant{1, 2, 100, 6}, Grant{0, 1, 199, 5})
	granted(t, "all of all", l, 8, full, 0, Grant{1, 2, 100, 6}, Grant{0, 1, 200, 5}, Grant{2, 3, 300, 4})
	granted(t, "no budget", l, 3, 0, 0)
}

// TestP172Came: what came goes ahead of what is granted, and what is granted counts.
func TestP172Came(t *testing.T) {
	l := []Msg{msg(0, 1, 100, 50, 70, 5), msg(1, 2, 200, 20, 60, 3)} // 60 are ahead
	granted(t, "room", l, 1, 90, 0, Grant{0, 1, 100, 6})
	granted(t, "little room", l, 1, 65, 0, Grant{0, 1, 75, 6})
	granted(t, "no room", l, 1, 60, 0)
	granted(t, "less than no room", l, 1, 59, 0)
	granted(t, "no budget", l, 1, 0, 0)
	granted(t, "a part each", l, 2, 110, 0, Grant{0, 1, 100, 6}, Grant{1, 2, 75, 5})
	granted(t, "room ends in the second", l, 2, 100, 0, Grant{0, 1, 100, 6}, Grant{1, 2, 70, 5})
	granted(t, "the first has its part already", l, 2, 40, 40)
	l[1].Granted = 25 // 25 are ahead
	granted(t, "the first has its part already", l, 2, 40, 0, Grant{1, 2, 40, 5})
	granted(t, "the first is granted a byte", l, 2, 42, 0, Grant{0, 1, 71, 6}, Grant{1, 2, 41, 5})
}

// TestP172Complete: one that is complete, or may not be, has no turn, and no number.
func TestP172Complete(t *testing.T) {
	l := []Msg{msg(0, 1, 9, 9, 9, 0), msg(8, 1, 9, 0, 9, 0), msg(1, 1, 9, 0, 0, 5), msg(0, 2, 0, 0, 0, 0), msg(2, 1, 30, 0, 0, 4)}
	granted(t, "one turn", l, 1, 20, 0, Grant{1, 1, 9, 6})
	granted(t, "two turns", l, 2, 20, 0, Grant{1, 1, 9, 6}, Grant{2, 1, 10, 5})
	granted(t, "the oldest", l, 2, 20, 20, Grant{2, 1, 20, 5})
}

func TestP172Oldest(t *testing.T) {
	l := []Msg{msg(0, 1, 100, 0, 0, 5), msg(1, 1, 200, 0, 0, 3), msg(2, 1, 300, 0, 0, 1)}
	granted(t, "not among the first", l, 2, 41, 8, Grant{2, 1, 8, 0}, Grant{0, 1, 20, 6}, Grant{1, 1, 13, 5})
	granted(t, "among the first", l, 3, 90, 5, Grant{2, 1, 30, 4}, Grant{0, 1, 30, 6}, Grant{1, 1, 30, 5})
	granted(t, "all goes to it", l, 3, 90, 90, Grant{2, 1, 90, 4})
	granted(t, "all but a byte", l, 1, 90, 89, Grant{2, 1, 89, 0}, Grant{0, 1, 1, 6})
	granted(t, "a byte", l, 1, 90, 1, Grant{2, 1, 1, 0}, Grant{0, 1, 89, 6})
	granted(t, "no share", l, 2, 90, 0, Grant{0, 1, 45, 6}, Grant{1, 1, 45, 5})
	granted(t, "no more than all", l, 1, 1000, 500, Grant{2, 1, 300, 0}, Grant{0, 1, 100, 6})
	// Two turns of one: Ahead of the second is counted with that of the first.
	one := []Msg{msg(4, 7, 300, 100, 110, 1)}
	granted(t, "first more than its part", one, 2, 100, 60, Grant{4, 7, 160, 6})
	granted(t, "first less than its part", one, 2, 100, 40, Grant{4, 7, 150, 6})
	granted(t, "its share already", one, 2, 100, 10, Grant{4, 7, 150, 6})
	granted(t, "its share and its part already", one, 8, 80, 10)
	granted(t, "room", one, 1, 100, 40, Grant{4, 7, 200, 6})
}

// TestP172OldestLater: the oldest one had no more at first, so that its turn is that of its order.
func TestP172OldestLater(t *testing.T) {
	l := []Msg{msg(0, 1, 100, 0, 0, 5), msg(1, 1, 200, 0, 10, 3), msg(2, 1, 300, 0, 0, 5)}
	granted(t, "its share already", l, 3, 90, 10, Grant{0, 1, 30, 6}, Grant{1, 1, 30, 5}, Grant{2, 1, 30, 4})
	granted(t, "a byte of its share", l, 3, 90, 11, Grant{1, 1, 30, 5}, Grant{0, 1, 30, 6}, Grant{2, 1, 30, 4})
	granted(t, "its share and not among the first", l, 1, 90, 10, Grant{0, 1, 80, 6})
	granted(t, "all of it is granted", []Msg{msg(0, 1, 100, 0, 0, 5), msg(1, 1, 20, 0, 20, 3)}, 2, 90, 90, Grant{0, 1, 45, 5})
}

// TestP172Room: Ahead of what may not be, or is complete, takes no room; that of those behind the k-th does.
func TestP172Room(t *testing.T) {
	l := []Msg{msg(0, 1, 100, 0, 0, 5), msg(1, 1, 200, 0, 50, 3), msg(8, 1, 200, 0, 50, 3), msg(2, 1, 60, 60, 60, 1)}
	granted(t, "behind the k-th", l, 1, 80, 0, Grant{0, 1, 30, 6})
	granted(t, "room and a byte", l, 1, 51, 0, Grant{0, 1, 1, 6})
	granted(t, "just room", l, 1, 50, 0)
	granted(t, "the oldest takes the rest", l, 1, 80, 80, Grant{1, 1, 80, 0})
	granted(t, "the oldest takes of the rest", l, 1, 80, 55, Grant{1, 1, 55, 0}, Grant{0, 1, 25, 6})
}

func TestP172Prios(t *testing.T) {
	var l []Msg
	for i := range 10 {
		l = append(l, msg(i%8, uint64(i+1), 10+i, 0, 0, 9-i))
	}
	var want []Grant
	for i := range 8 {
		want = append(want, Grant{i % 8, uint64(i + 1), 2, max(0, 6-i)})
	}
	granted(t, "eight", l, 8, 16, 0, want...)
	want = slices.Insert(want[:7], 0, Grant{1, 10, 2, 0})
	granted(t, "the oldest goes first", l, 8, 16, 2, want...)
	// The oldest is the eighth, whose prio is 0 too.
	granted(t, "the eighth", l[:8], 8, 16, 3, slices.Concat([]Grant{{7, 8, 3, 0}}, want[1:7], []Grant{{6, 7, 1, 0}})...)
}

// TestP172Same: two messages of one number are two.
func TestP172Same(t *testing.T) {
	l := slices.Repeat([]Msg{msg(3, 4, 50, 10, 10, 7)}, 3)
	granted(t, "alike", l, 2, 20, 0, Grant{3, 4, 20, 6}, Grant{3, 4, 20, 5})
	granted(t, "alike, and a share", l, 2, 20, 15, Grant{3, 4, 25, 6}, Grant{3, 4, 15, 5})
}

func TestP172Greatest(t *testing.T) {
	l := []Msg{msg(0, 1, top, 0, 0, 0), msg(7, last, top, 1, 1, end)}
	granted(t, "all", l, 8, full, full, Grant{0, 1, top, 5}, Grant{7, last, top, 6})
	granted(t, "all, and no share", l, 8, full, 0, Grant{7, last, top, 6}, Grant{0, 1, top, 5})
	many := slices.Repeat([]Msg{msg(1, 2, top, 0, top, 3)}, full/top)
	many = append(many, msg(0, 1, top-1, 0, 0, 4))
	granted(t, "no room", many, 1, full, full)
	granted(t, "room for all", many[1:], 1, full, 0, Grant{0, 1, top - 1, 6})
	many[0].Have++
	granted(t, "room for a byte", many, 2, full, 0, Grant{0, 1, 1, 6})
}

// TestP172Drawn holds many lists against slow ones, which grant byte by byte.
func TestP172Drawn(t *testing.T) {
	d := draws(172)
	for range 20000 {
		l := d.msgs(12)
		k, budget := 1+d.below(8), d.below(90)
		share := d.below(budget + 1)
		if d.below(3) == 0 {
			share = budget / 8
		}
		granted(t, "drawn", l, k, budget, share, slowGrants(l, k, budget, share)...)
	}
}

// TestP173Bounds: no Upto is above Total, nor at most what was granted, and Ahead of all is within budget.
func TestP173Bounds(t *testing.T) {
	d := draws(173)
	for range 5000 {
		var l []Msg
		for i := range 1 + d.below(10) {
			total := d.below(1 << (1 + d.below(30)))
			got := d.below(total + 1)
			l = append(l, msg(i%8, uint64(i+1), total, got, got+d.below(total-got+1), d.below(5)))
		}
		budget := d.below(1<<16) << d.below(25)
		grants, e := Grants(l, 1+d.below(8), budget, d.below(1<<16)*(budget>>16))
		equal(t, "error", e, api.OK)
		before := Ahead(l)
		for _, g := range grants {
			m := &l[g.ID-1]
			if g.Peer != m.Peer || g.Upto <= m.Granted || g.Upto > m.Total || g.Prio < 0 || g.Prio > 6 {
				t.Errorf("%v for %v", g, *m)
			}
			m.Granted = g.Upto
		}
		if after := Ahead(l); after > max(before, budget) {
			t.Errorf("%d ahead, of %d, budget %d", after, before, budget)
		}
	}
}

// TestP173Memory: nothing handed in is changed, its spare room neither, and no answer hangs on it, or on another one.
func TestP173Memory(t *testing.T) {
	room := []Msg{msg(1, 5, 90, 50, 60, 4), msg(0, 2, 30, 0, 0, 3), msg(0, 9, 9, 9, 9, 2), msg(5, 1, 40, 10, 10, 1), msg(6, 6, 66, 6, 16, 6)}
	before := slices.Clone(room)
	l := room[:4]
	order, grants := Order(l), func() []Grant { g, _ := Grants(l, 3, 99, 20); return g }
	one, other := grants(), grants()
	wantOrder, want := slices.Clone(order), slices.Clone(one)
	Oldest(l)
	Ahead(l)
	May(l[0])
	lists(t, "what is handed in", room, before)
	for i := range one {
		one[i] = Grant{}
	}
	_ = append(one, Grant{})
	lists(t, "another answer", other, want)
	again := Order(l)
	for i := range again {
		again[i] = -1
	}
	lists(t, "another order", order, wantOrder)
	clear(room)
	lists(t, "an answer, when what was handed in is gone", other, want)
	lists(t, "an order, when what was handed in is gone", order, wantOrder)
	copy(room, before)
	lists(t, "once more", grants(), want)
	lists(t, "once more", Order(l), wantOrder)
}
