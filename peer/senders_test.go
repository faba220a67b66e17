package peer

import (
	"bytes"
	"math"
	"slices"
	"strconv"
	"testing"

	"mizzen/api"
)

// senders is one that NewSenders made.
func senders(t *testing.T, most, maxMsg int, last uint64) *Senders {
	t.Helper()
	s, e := NewSenders(most, maxMsg, last)
	if s == nil || e != api.OK {
		t.Fatalf("NewSenders(%d, %d, %d): got %v, %v", most, maxMsg, last, s, e)
	}
	return s
}

// submits holds what Submit tells.
func submits(t *testing.T, s *Senders, dst int, data string, id uint64, e api.Errno) {
	t.Helper()
	gotID, gotE := s.Submit(dst, []byte(data))
	what := "Submit(" + strconv.Itoa(dst) + ", " + strconv.Itoa(len(data)) + " bytes)"
	equal(t, what, gotID, id)
	equal(t, what, gotE, e)
}

// is holds one that is there.
func is(t *testing.T, s *Senders, id uint64, dst int, data string, state int) {
	t.Helper()
	o, ok := s.Get(id)
	equal(t, "Get", ok, true)
	equal(t, "ID", o.ID, id)
	equal(t, "Dst", o.Dst, dst)
	equal(t, "Data", string(o.Data), data)
	equal(t, "State", o.State, state)
	equal(t, "Acked", o.Acked, state == api.SAcked)
}

// isNot holds that one is not there.
func isNot(t *testing.T, s *Senders, id uint64) {
	t.Helper()
	o, ok := s.Get(id)
	equal(t, "Get of none", ok, false)
	if o.ID != 0 || o.Dst != 0 || o.Data != nil || o.State != 0 || o.Acked {
		t.Errorf("Get of none: got %v", o)
	}
	for state := -1; state < 6; state++ {
		equal(t, "End of none", s.End(id, state), api.ErrNone)
	}
	equal(t, "Forget of none", s.Forget(id), api.ErrNone)
}

// slowSenders goes by the chapter's sentences.
type slowSenders struct {
	most, maxMsg int
	last, given  uint64
	there        []Out
}

func (s *slowSenders) submit(dst int, data []byte) (uint64, api.Errno) {
	if dst < 0 || dst > 7 {
		return 0, api.ErrArg
	}
	if len(data) > s.maxMsg {
		return 0, api.ErrBig
	}
	if len(s.there) >= s.most {
		return 0, api.ErrFull
	}
	if s.given == s.last {
		return 0, api.ErrSpent
	}
	s.given++
	s.there = append(s.there, Out{ID: s.given, Dst: dst, Data: bytes.Clone(data), State: 1})
	return s.given, api.OK
}

func (s *slowSenders) find(id uint64) int {
	return slices.IndexFunc(s.there, func(o Out) bool { return o.ID == id })
}

func (s *slowSenders) end(id uint64, state int) api.Errno {
	i := s.find(id)
	if i < 0 {
		return api.ErrNone
	}
	if state < 2 || state > 4 {
		return api.ErrArg
	}
	if s.there[i].State != 1 {
		return api.ErrLate
	}
	s.there[i].State = state
	return api.OK
}

func (s *slowSenders) forget(id uint64) api.Errno {
	i := s.find(id)
	if i < 0 {
		return api.ErrNone
	}
	if s.there[i].State == 1 {
		return api.ErrArg
	}
	s.there = slices.Delete(s.there, i, i+1)
	return api.OK
}

func (s *slowSenders) open() []uint64 {
	var open []uint64
	for _, o := range s.there {
		if o.State == 1 {
			open = append(open, o.ID)
		}
	}
	return open
}

func (s *slowSenders) lowest(dst int) uint64 {
	for _, o := range s.there {
		if o.State == 1 && o.Dst == dst {
			return o.ID
		}
	}
	return s.given + 1
}

// sameAs holds all that one tells against the slow one.
func (s *slowSenders) sameAs(t *testing.T, fast *Senders) {
	t.Helper()
	lists(t, "Open", fast.Open(), s.open())
	equal(t, "Len", fast.Len(), len(s.there))
	for dst := -2; dst < 11; dst++ {
		equal(t, "Lowest", fast.Lowest(dst), s.lowest(dst))
	}
	for id := range s.given + 3 {
		o, ok := fast.Get(id)
		i := s.find(id)
		equal(t, "Get", ok, i >= 0)
		want := Out{}
		if i >= 0 {
			want = s.there[i]
		}
		lists(t, "Data", o.Data, want.Data)
		equal(t, "ID", o.ID, want.ID)
		equal(t, "Dst", o.Dst, want.Dst)
		equal(t, "State", o.State, want.State)
		equal(t, "Acked", o.Acked, want.State == 2)
	}
}

func TestP201NewSenders(t *testing.T) {
	for _, c := range limits {
		for _, last := range []uint64{1, 2, end - 1, end, 0, end + 1, math.MaxUint64} {
			want := api.OK
			if !c.may || last < 1 || last > end {
				want = api.ErrArg
			}
			s, e := NewSenders(c.most, c.maxMsg, last)
			equal(t, "NewSenders", e, want)
			equal(t, "NewSenders: one", s != nil, want == api.OK)
			equal(t, "Len", s.Len(), 0)
			equal(t, "Open", len(s.Open()), 0)
			equal(t, "Lowest", s.Lowest(0), 1)
		}
	}
}

func TestP201Submit(t *testing.T) {
	s := senders(t, 3, 4, 5)
	submits(t, s, 0, "abcd", 1, api.OK)
	submits(t, s, 7, "", 2, api.OK)
	is(t, s, 1, 0, "abcd", api.SPending)
	is(t, s, 2, 7, "", api.SPending)
	for _, dst := range noHosts {
		submits(t, s, dst, "a", 0, api.ErrArg)
		submits(t, s, dst, "abcde", 0, api.ErrArg)
	}
	submits(t, s, 0, "abcde", 0, api.ErrBig)
	submits(t, s, 7, "x", 3, api.OK)
	// Full: what comes ahead of that is told first, and no id is lost.
	for range 3 {
		submits(t, s, 8, "x", 0, api.ErrArg)
		submits(t, s, 0, "abcde", 0, api.ErrBig)
		submits(t, s, 0, "x", 0, api.ErrFull)
	}
	equal(t, "Len", s.Len(), 3)
	// One that ended is there till it is forgotten.
	equal(t, "End", s.End(2, api.SFailed), api.OK)
	submits(t, s, 0, "x", 0, api.ErrFull)
	equal(t, "Forget", s.Forget(2), api.OK)
	submits(t, s, 1, "y", 4, api.OK)
	equal(t, "End", s.End(4, api.SFailed), api.OK)
	equal(t, "Forget", s.Forget(4), api.OK)
	submits(t, s, 1, "z", 5, api.OK)
	// Full, and spent: full is told, and spent as soon as there is room.
	submits(t, s, 1, "z", 0, api.ErrFull)
	equal(t, "End", s.End(5, api.SFailed), api.OK)
	equal(t, "Forget", s.Forget(5), api.OK)
	for range 3 {
		submits(t, s, 1, "z", 0, api.ErrSpent)
		submits(t, s, 1, "abcde", 0, api.ErrBig)
	}
	equal(t, "Len", s.Len(), 2)
	equal(t, "Lowest", s.Lowest(1), 6)
}

func TestP201SubmitAtTheLimits(t *testing.T) {
	s := senders(t, 1, long, end)
	submits(t, s, 3, string(make([]byte, long+1)), 0, api.ErrBig)
	all := string(bytesOf(3, 1, long))
	submits(t, s, 3, all, 1, api.OK)
	is(t, s, 1, 3, all, api.SPending)
	none := senders(t, 1, 0, 1)
	submits(t, none, 3, "a", 0, api.ErrBig)
	submits(t, none, 3, "", 1, api.OK)
	submits(t, none, 3, "", 0, api.ErrFull)
	equal(t, "End", none.End(1, api.SAcked), api.OK)
	equal(t, "Forget", none.Forget(1), api.OK)
	submits(t, none, 3, "", 0, api.ErrSpent)
	equal(t, "Lowest", none.Lowest(3), 2)
}

func TestP201End(t *testing.T) {
	s := senders(t, 5, 4, 9)
	for id := uint64(1); id <= 4; id++ {
		submits(t, s, int(id), "ab", id, api.OK)
	}
	for _, state := range []int{math.MinInt, -1, api.SNone, api.SPending, 5, 1 << 40, math.MaxInt} {
		equal(t, "End: no end", s.End(1, state), api.ErrArg)
		is(t, s, 1, 1, "ab", api.SPending)
	}
	equal(t, "End", s.End(1, api.SAcked), api.OK)
	equal(t, "End", s.End(2, api.SFailed), api.OK)
	equal(t, "End", s.End(3, api.SCancelled), api.OK)
	for state := -1; state < 7; state++ {
		want := api.ErrArg
		if state >= api.SAcked && state <= api.SCancelled {
			want = api.ErrLate
		}
		for id := uint64(1); id <= 3; id++ {
			equal(t, "End again", s.End(id, state), want)
		}
	}
	is(t, s, 1, 1, "ab", api.SAcked)
	is(t, s, 2, 2, "ab", api.SFailed)
	is(t, s, 3, 3, "ab", api.SCancelled)
	is(t, s, 4, 4, "ab", api.SPending)
	for _, id := range []uint64{0, 5, 9, 10, end, end + 1, math.MaxUint64} {
		isNot(t, s, id)
	}
	equal(t, "Len", s.Len(), 4)
}

func TestP201Forget(t *testing.T) {
	s := senders(t, 5, 4, 9)
	submits(t, s, 1, "ab", 1, api.OK)
	submits(t, s, 1, "cd", 2, api.OK)
	for range 2 {
		equal(t, "Forget of a pending one", s.Forget(1), api.ErrArg)
	}
	is(t, s, 1, 1, "ab", api.SPending)
	equal(t, "End", s.End(1, api.SCancelled), api.OK)
	equal(t, "Forget", s.Forget(1), api.OK)
	isNot(t, s, 1)
	is(t, s, 2, 1, "cd", api.SPending)
	equal(t, "Len", s.Len(), 1)
	// Its id is not given again.
	submits(t, s, 1, "ef", 3, api.OK)
}

func TestP201OpenAndLowest(t *testing.T) {
	s := senders(t, 20, 4, 20)
	for id, dst := range []int{5, 0, 5, 7, 0, 7, 5} {
		submits(t, s, dst, "a", uint64(id+1), api.OK)
	}
	lists(t, "Open", s.Open(), []uint64{1, 2, 3, 4, 5, 6, 7})
	equal(t, "Lowest", s.Lowest(5), 1)
	equal(t, "Lowest", s.Lowest(0), 2)
	equal(t, "Lowest", s.Lowest(7), 4)
	equal(t, "Lowest of none", s.Lowest(1), 8)
	for _, dst := range noHosts {
		equal(t, "Lowest of no host", s.Lowest(dst), 8)
	}
	equal(t, "End", s.End(3, api.SAcked), api.OK)
	equal(t, "Lowest", s.Lowest(5), 1)
	equal(t, "End", s.End(1, api.SFailed), api.OK)
	equal(t, "Lowest", s.Lowest(5), 7)
	lists(t, "Open", s.Open(), []uint64{2, 4, 5, 6, 7})
	equal(t, "End", s.End(7, api.SCancelled), api.OK)
	equal(t, "Lowest", s.Lowest(5), 8)
	lists(t, "Open", s.Open(), []uint64{2, 4, 5, 6})
	equal(t, "Len", s.Len(), 7)
}

func TestP201Many(t *testing.T) {
	s := senders(t, many, 2, end)
	for k := range 2 * many {
		id := uint64(k + 1)
		want := api.OK
		if k >= many {
			id, want = 0, api.ErrFull
		}
		submits(t, s, k%8, "ab", id, want)
	}
	equal(t, "Len", s.Len(), many)
	equal(t, "Open", len(s.Open()), many)
	for k := range many - 8 {
		id := uint64(k + 1)
		equal(t, "Lowest", s.Lowest(k%8), id)
		equal(t, "End", s.End(id, 2+k%3), api.OK)
		equal(t, "Lowest", s.Lowest(k%8), id+8)
		equal(t, "Forget", s.Forget(id), api.OK)
	}
	equal(t, "Len", s.Len(), 8)
	for dst := range s.open {
		if room := cap(s.open[dst]); room > 8 {
			t.Errorf("one is open for %d, and there is room for %d", dst, room)
		}
	}
	submits(t, s, 0, "ab", many+1, api.OK)
}

// TestP201Steps holds it step by step against the slow one.
func TestP201Steps(t *testing.T) {
	for seed := range 150 {
		d := draws(seed)
		slow := &slowSenders{most: 1 + d.below(6), maxMsg: d.below(5), last: uint64(1 + d.below(40))}
		fast := senders(t, slow.most, slow.maxMsg, slow.last)
		for range 120 {
			id := uint64(d.below(int(slow.given) + 3))
			switch d.below(4) {
			case 0, 1:
				dst, data := d.below(10)-1, bytesOf(1, slow.given, d.below(6))
				wantID, wantE := slow.submit(dst, data)
				submits(t, fast, dst, string(data), wantID, wantE)
			case 2:
				state := d.below(7) - 1
				equal(t, "End", fast.End(id, state), slow.end(id, state))
			case 3:
				equal(t, "Forget", fast.Forget(id), slow.forget(id))
			}
			slow.sameAs(t, fast)
		}
		if t.Failed() {
			t.Fatalf("seed %d", seed)
		}
	}
}

func TestP203NoSenders(t *testing.T) {
	for _, none := range []*Senders{nil, {}, new(Senders)} {
		submits(t, none, 0, "", 0, api.ErrFull)
		submits(t, none, 7, string(make([]byte, long+1)), 0, api.ErrFull)
		for _, dst := range noHosts {
			submits(t, none, dst, "", 0, api.ErrArg)
			equal(t, "Lowest", none.Lowest(dst), 1)
		}
		for _, id := range []uint64{0, 1, end, math.MaxUint64} {
			isNot(t, none, id)
		}
		equal(t, "Open", len(none.Open()), 0)
		equal(t, "Lowest", none.Lowest(0), 1)
		equal(t, "Len", none.Len(), 0)
	}
}

func TestP204SendersKeepNothingOfOthers(t *testing.T) {
	s := senders(t, 5, 9, 9)
	in, held := guarded([]byte("abc"))
	id, e := s.Submit(1, in)
	equal(t, "Submit", id, 1)
	equal(t, "Submit", e, api.OK)
	held(t)
	spoil(in, 'x')
	is(t, s, 1, 1, "abc", api.SPending)
	first, _ := s.Get(1)
	second, _ := s.Get(1)
	spoil(first.Data, 'y')
	equal(t, "another answer", string(second.Data), "abc")
	is(t, s, 1, 1, "abc", api.SPending)
	submits(t, s, 1, "de", 2, api.OK)
	open, other := s.Open(), s.Open()
	spoil(open, 77)
	lists(t, "another Open", other, []uint64{1, 2})
	lists(t, "Open", s.Open(), []uint64{1, 2})
	equal(t, "Lowest", s.Lowest(1), 1)
	equal(t, "End", s.End(1, api.SAcked), api.OK)
	is(t, s, 1, 1, "abc", api.SAcked)
	equal(t, "the answer of before", first.State, api.SPending)
	// None of one byte's memory is kept through a message of none.
	_, e = s.Submit(1, in[:0])
	equal(t, "Submit", e, api.OK)
	last, _ := s.Get(3)
	equal(t, "room of an empty one", cap(last.Data), 0)
}

func TestP204SendersApart(t *testing.T) {
	a, b := senders(t, 5, 9, 9), senders(t, 5, 9, 9)
	submits(t, a, 1, "a", 1, api.OK)
	submits(t, a, 1, "a", 2, api.OK)
	submits(t, b, 2, "b", 1, api.OK)
	equal(t, "End", a.End(1, api.SAcked), api.OK)
	equal(t, "Forget", a.Forget(1), api.OK)
	is(t, b, 1, 2, "b", api.SPending)
	isNot(t, b, 2)
	equal(t, "Len", b.Len(), 1)
}
