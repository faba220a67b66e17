package peer

import (
	"bytes"
	"math"
	"slices"
	"strconv"
	"testing"

	"mizzen/api"
)

// receivers is one that NewReceivers made.
func receivers(t *testing.T, most, maxMsg int) *Receivers {
	t.Helper()
	r, e := NewReceivers(most, maxMsg)
	if r == nil || e != api.OK {
		t.Fatalf("NewReceivers(%d, %d): got %v, %v", most, maxMsg, r, e)
	}
	return r
}

// got is what Data tells.
type got struct {
	fresh int
	done  bool
	e     api.Errno
}

var (
	badArg = got{e: api.ErrArg}
	clash  = got{e: api.ErrBad}
	tooBig = got{e: api.ErrBig}
	noRoom = got{e: api.ErrFull}
	// over is what is told of one that has ended.
	over = got{done: true}
)

// part is that some came, but not all.
func part(fresh int) got { return got{fresh: fresh} }

// whole is that what came was the last of it.
func whole(fresh int) got { return got{fresh: fresh, done: true} }

// takes holds what Data tells.
func takes(t *testing.T, r *Receivers, src int, id uint64, total, off int, data string, want got) {
	t.Helper()
	fresh, done, e := r.Data(src, id, total, off, []byte(data))
	what := "Data(" + strconv.Itoa(src) + ", " + strconv.FormatUint(id, 10) + ", " + strconv.Itoa(total) + ", " + strconv.Itoa(off) + ", " + strconv.Quote(data) + ")"
	equal(t, what, got{fresh, done, e}, want)
}

// polls holds what Poll tells.
func polls(t *testing.T, r *Receivers, from int, id uint64, data string) {
	t.Helper()
	m, ok := r.Poll()
	equal(t, "Poll", ok, true)
	equal(t, "From", m.From, from)
	equal(t, "ID", m.ID, id)
	equal(t, "Data", string(m.Data), data)
}

// pollsNone holds that none waits.
func pollsNone(t *testing.T, r *Receivers) {
	t.Helper()
	equal(t, "Waiting", r.Waiting(), 0)
	for range 2 {
		m, ok := r.Poll()
		equal(t, "Poll of none", ok, false)
		if m.From != 0 || m.ID != 0 || m.Data != nil {
			t.Errorf("Poll of none: got %v", m)
		}
	}
}

// had is what Have tells.
type had struct {
	have, total int
	ok          bool
}

func have(r *Receivers, src int, id uint64) had {
	n, total, ok := r.Have(src, id)
	return had{n, total, ok}
}

// slowMsg is a message each byte of which came or not.
type slowMsg struct {
	src  int
	id   uint64
	data []byte
	came []bool
}

func (m *slowMsg) have() int {
	n := 0
	for _, came := range m.came {
		if came {
			n++
		}
	}
	return n
}

func (m *slowMsg) gaps(upto, most int) []api.Range {
	var gaps []api.Range
	for i := range min(upto, len(m.came)) {
		switch {
		case m.came[i]:
		case i > 0 && !m.came[i-1]:
			gaps[len(gaps)-1].To = i + 1
		default:
			gaps = append(gaps, api.Range{From: i, To: i + 1})
		}
	}
	return gaps[:max(0, min(most, len(gaps)))]
}

// slowReceivers goes by the chapter's sentences.
type slowReceivers struct {
	most, maxMsg int
	mark         [8]uint64
	records      [8][]uint64
	known        []*slowMsg
	ready        []api.Message
}

func slowOf(most, maxMsg int) *slowReceivers {
	s := &slowReceivers{most: most, maxMsg: maxMsg}
	for src := range s.mark {
		s.mark[src] = 1
	}
	return s
}

func (s *slowReceivers) ended(src int, id uint64) bool {
	return src >= 0 && src <= 7 && id > 0 && (id < s.mark[src] || slices.Contains(s.records[src], id))
}

// goOn lets the mark go on to one, at least, and over all that have ended.
func (s *slowReceivers) goOn(src int, to uint64) {
	s.mark[src] = max(s.mark[src], to)
	for slices.Contains(s.records[src], s.mark[src]) {
		s.mark[src]++
	}
	s.records[src] = slices.DeleteFunc(s.records[src], func(id uint64) bool { return id < s.mark[src] })
}

func (s *slowReceivers) find(src int, id uint64) *slowMsg {
	for _, m := range s.known {
		if m.src == src && m.id == id {
			return m
		}
	}
	return nil
}

// forget lets all go that are as asked: how many.
func (s *slowReceivers) forget(asked func(*slowMsg) bool) int {
	was := len(s.known)
	s.known = slices.DeleteFunc(s.known, asked)
	return was - len(s.known)
}

func (s *slowReceivers) take(src int, id uint64, total, off int, data []byte) got {
	switch {
	case src < 0 || src > 7 || id == 0 || id > end || total < 0 || off < 0 || off > total || len(data) > total-off:
		return badArg
	case s.ended(src, id):
		return over
	case total > s.maxMsg:
		return tooBig
	}
	m := s.find(src, id)
	if m == nil {
		ofSrc := len(s.records[src])
		for _, k := range s.known {
			if k.src == src {
				ofSrc++
			}
		}
		if len(s.known) >= s.most || (id != s.mark[src] && ofSrc >= s.most) {
			return noRoom
		}
		m = &slowMsg{src: src, id: id, data: make([]byte, total), came: make([]bool, total)}
		s.known = append(s.known, m)
	}
	if len(m.data) != total {
		return clash
	}
	for i, b := range data {
		if m.came[off+i] && m.data[off+i] != b {
			return clash
		}
	}
	was := m.have()
	for i, b := range data {
		m.came[off+i], m.data[off+i] = true, b
	}
	fresh := m.have() - was
	if m.have() < total {
		return part(fresh)
	}
	s.ready = append(s.ready, api.Message{From: src, ID: id, Data: m.data})
	s.records[src] = append(s.records[src], id)
	s.goOn(src, 0)
	s.forget(func(k *slowMsg) bool { return k == m })
	return whole(fresh)
}

func (s *slowReceivers) retire(src int, below uint64) int {
	if src < 0 || src > 7 {
		return 0
	}
	s.goOn(src, min(below, end+1))
	return s.forget(func(m *slowMsg) bool { return m.src == src && m.id < below })
}

// sameAs holds all that one tells of these ids against the slow one.
func (s *slowReceivers) sameAs(t *testing.T, fast *Receivers, from, to uint64) {
	t.Helper()
	equal(t, "Len", fast.Len(), len(s.known))
	equal(t, "Waiting", fast.Waiting(), len(s.ready))
	for src := -1; src < 9; src++ {
		for id := from; id <= to; id++ {
			equal(t, "Ended", fast.Ended(src, id), s.ended(src, id))
			want, gaps := had{}, []api.Range(nil)
			if m := s.find(src, id); m != nil {
				want, gaps = had{m.have(), len(m.data), true}, m.gaps(9, 9)
				lists(t, "some Gaps", fast.Gaps(src, id, 3, 1), m.gaps(3, 1))
			}
			equal(t, "Have", have(fast, src, id), want)
			lists(t, "Gaps", fast.Gaps(src, id, 9, 9), gaps)
		}
	}
}

func TestP202NewReceivers(t *testing.T) {
	for _, c := range limits {
		want := api.ErrArg
		if c.may {
			want = api.OK
		}
		r, e := NewReceivers(c.most, c.maxMsg)
		equal(t, "NewReceivers", e, want)
		equal(t, "NewReceivers: one", r != nil, c.may)
		equal(t, "Len", r.Len(), 0)
		pollsNone(t, r)
		for src := range 8 {
			equal(t, "Ended", r.Ended(src, 1), false)
		}
	}
}

func TestP202WhatMayNotBe(t *testing.T) {
	r := receivers(t, 2, 5)
	refused := func(what string) {
		t.Helper()
		for _, src := range noHosts {
			takes(t, r, src, 1, 3, 0, "a", badArg)
		}
		for _, id := range []uint64{0, end + 1, math.MaxUint64} {
			takes(t, r, 0, id, 3, 0, "a", badArg)
		}
		for _, c := range []struct {
			total, off int
			data       string
		}{
			{-1, 0, ""}, {-1, -1, ""}, {math.MinInt, 0, ""}, {math.MinInt, math.MaxInt, "a"}, {math.MinInt, math.MinInt, "a"},
			{3, -1, "a"}, {3, math.MinInt, ""}, {math.MaxInt, -1, ""},
			{3, 4, ""}, {3, 3, "a"}, {3, 0, "abcd"}, {3, 1, "abc"}, {0, 0, "a"}, {0, 1, ""},
			{3, math.MaxInt, "a"}, {3, math.MaxInt, ""}, {math.MaxInt, math.MaxInt, "a"}, {6, 6, "a"}, {99, 98, "ab"},
		} {
			takes(t, r, 0, 1, c.total, c.off, c.data, badArg)
			takes(t, r, 0, 2, c.total, c.off, c.data, badArg)
		}
	}
	refused("of none")
	takes(t, r, 0, 1, 3, 0, "ab", part(2))
	refused("of one that is known")
	takes(t, r, 0, 1, 3, 2, "c", whole(1))
	takes(t, r, 0, 2, 3, 0, "ab", part(2))
	takes(t, r, 1, 1, 3, 0, "ab", part(2))
	refused("of one that has ended, and of full ones")
	equal(t, "Len", r.Len(), 2)
	equal(t, "Have", have(r, 0, 2), had{2, 3, true})
	polls(t, r, 0, 1, "abc")
	pollsNone(t, r)
}

func TestP202OneThatHasEnded(t *testing.T) {
	r := receivers(t, 2, 5)
	takes(t, r, 3, 1, 2, 0, "ab", whole(2))
	// Whatever is told of it, as long as it may be: longer than any may be, of another length, or with other bytes.
	for _, c := range []struct {
		total, off int
		data       string
	}{{2, 0, "ab"}, {2, 0, "xy"}, {0, 0, ""}, {99, 0, "z"}, {math.MaxInt, math.MaxInt, ""}, {math.MaxInt, math.MaxInt - 1, "z"}} {
		takes(t, r, 3, 1, c.total, c.off, c.data, over)
	}
	equal(t, "Waiting", r.Waiting(), 1)
	equal(t, "Ended", r.Ended(3, 1), true)
	equal(t, "Ended of another source", r.Ended(2, 1), false)
	// Full, too.
	takes(t, r, 0, 1, 2, 0, "a", part(1))
	takes(t, r, 1, 1, 2, 0, "a", part(1))
	takes(t, r, 3, 1, 2, 0, "ab", over)
	takes(t, r, 3, 2, 2, 0, "ab", noRoom)
	polls(t, r, 3, 1, "ab")
	pollsNone(t, r)
}

func TestP202Put(t *testing.T) {
	r := receivers(t, 5, 5)
	takes(t, r, 0, 1, 6, 0, "a", tooBig)
	takes(t, r, 0, 1, math.MaxInt, 0, "a", tooBig)
	equal(t, "Have", have(r, 0, 1), had{})
	equal(t, "Len", r.Len(), 0)
	takes(t, r, 0, 1, 5, 1, "bc", part(2))
	takes(t, r, 0, 1, 5, 1, "bc", part(0))
	takes(t, r, 0, 1, 5, 2, "cd", part(1))
	takes(t, r, 0, 1, 5, 5, "", part(0))
	// Another total, that is too big first, or other bytes: nothing of them is put.
	takes(t, r, 0, 1, 6, 0, "a", tooBig)
	takes(t, r, 0, 1, 4, 0, "a", clash)
	takes(t, r, 0, 1, 0, 0, "", clash)
	takes(t, r, 0, 1, 5, 0, "abx", clash)
	takes(t, r, 0, 1, 5, 3, "xe", clash)
	equal(t, "Have", have(r, 0, 1), had{3, 5, true})
	lists(t, "Gaps", r.Gaps(0, 1, 5, 5), []api.Range{{From: 0, To: 1}, {From: 4, To: 5}})
	lists(t, "Gaps", r.Gaps(0, 1, 1, 5), []api.Range{{From: 0, To: 1}})
	lists(t, "Gaps", r.Gaps(0, 1, math.MaxInt, 1), []api.Range{{From: 0, To: 1}})
	lists(t, "Gaps", r.Gaps(0, 1, math.MinInt, 5), nil)
	lists(t, "Gaps", r.Gaps(0, 1, 5, 0), nil)
	lists(t, "Gaps", r.Gaps(0, 1, 5, math.MinInt), nil)
	takes(t, r, 0, 1, 5, 4, "e", part(1))
	takes(t, r, 0, 1, 5, 0, "abcde", whole(1))
	takes(t, r, 0, 1, 5, 0, "abcde", over)
	equal(t, "Have", have(r, 0, 1), had{})
	lists(t, "Gaps of one that has ended", r.Gaps(0, 1, 5, 5), nil)
	equal(t, "Len", r.Len(), 0)
	polls(t, r, 0, 1, "abcde")
	pollsNone(t, r)
}

func TestP202NoBytes(t *testing.T) {
	r := receivers(t, 5, 5)
	takes(t, r, 0, 1, 0, 0, "", whole(0))
	takes(t, r, 0, 1, 0, 0, "", over)
	// Nothing of one that has bytes: it is known from then on.
	takes(t, r, 0, 2, 2, 0, "", part(0))
	takes(t, r, 0, 2, 2, 2, "", part(0))
	equal(t, "Have", have(r, 0, 2), had{0, 2, true})
	equal(t, "Len", r.Len(), 1)
	takes(t, r, 0, 2, 3, 0, "", clash)
	takes(t, r, 0, 2, 2, 0, "ab", whole(2))
	polls(t, r, 0, 1, "")
	polls(t, r, 0, 2, "ab")
	pollsNone(t, r)
	none := receivers(t, 1, 0)
	takes(t, none, 0, 1, 1, 0, "", tooBig)
	takes(t, none, 0, 1, 0, 0, "", whole(0))
	takes(t, none, 0, end, 0, 0, "", whole(0))
	takes(t, none, 0, 3, 0, 0, "", noRoom)
	takes(t, none, 0, 2, 0, 0, "", whole(0))
	polls(t, none, 0, 1, "")
	polls(t, none, 0, end, "")
	polls(t, none, 0, 2, "")
}

func TestP202FullInAll(t *testing.T) {
	r := receivers(t, 3, 5)
	takes(t, r, 0, 1, 2, 0, "a", part(1))
	takes(t, r, 5, 9, 2, 0, "a", part(1))
	takes(t, r, 7, end, 2, 0, "a", part(1))
	// Even of a mark, and of one that would be whole at once.
	takes(t, r, 1, 1, 2, 0, "ab", noRoom)
	takes(t, r, 0, 2, 0, 0, "", noRoom)
	takes(t, r, 5, 9, 3, 0, "a", clash)
	equal(t, "Len", r.Len(), 3)
	takes(t, r, 5, 9, 2, 1, "b", whole(1))
	equal(t, "Len", r.Len(), 2)
	takes(t, r, 1, 1, 2, 0, "ab", whole(2))
	takes(t, r, 1, 2, 2, 0, "a", part(1))
	takes(t, r, 2, 2, 2, 0, "a", noRoom)
	equal(t, "Retire", r.Retire(1, 3), 1)
	takes(t, r, 2, 2, 2, 0, "a", part(1))
}

func TestP202FullOfASource(t *testing.T) {
	r := receivers(t, 3, 5)
	takes(t, r, 4, 5, 1, 0, "e", whole(1))
	takes(t, r, 4, 3, 1, 0, "c", whole(1))
	takes(t, r, 4, 7, 2, 0, "g", part(1))
	// Two records, and one is known: none but the mark.
	for _, id := range []uint64{2, 4, 6, 8, end} {
		takes(t, r, 4, id, 1, 0, "x", noRoom)
		takes(t, r, 4, id, 0, 0, "", noRoom)
	}
	takes(t, r, 3, 2, 1, 0, "x", whole(1))
	// The mark is known, too, and the others come to their ends beside it.
	takes(t, r, 4, 1, 2, 0, "a", part(1))
	takes(t, r, 4, 2, 2, 0, "x", noRoom)
	takes(t, r, 4, 7, 2, 1, "g", whole(1))
	takes(t, r, 4, 2, 2, 0, "x", noRoom)
	takes(t, r, 4, 1, 2, 1, "a", whole(1))
	// The mark is 2: three records.
	takes(t, r, 4, 4, 1, 0, "x", noRoom)
	takes(t, r, 4, 2, 1, 0, "b", whole(1))
	// It is 4: two records are left.
	takes(t, r, 4, 6, 1, 0, "f", whole(1))
	takes(t, r, 4, 8, 1, 0, "h", noRoom)
	takes(t, r, 4, 4, 1, 0, "d", whole(1))
	takes(t, r, 4, 9, 1, 0, "i", whole(1))
	equal(t, "Retire", r.Retire(4, end), 0)
	takes(t, r, 4, end, 1, 0, "z", whole(1))
	for id := range uint64(20) {
		equal(t, "Ended", r.Ended(4, id), id > 0)
	}
	equal(t, "Len", r.Len(), 0)
	equal(t, "Waiting", r.Waiting(), 10)
}

func TestP202Poll(t *testing.T) {
	r := receivers(t, 9, 5)
	takes(t, r, 1, 2, 2, 0, "a", part(1))
	takes(t, r, 0, 1, 2, 0, "cd", whole(2))
	takes(t, r, 1, 2, 2, 1, "b", whole(1))
	polls(t, r, 0, 1, "cd")
	takes(t, r, 7, 1, 0, 0, "", whole(0))
	takes(t, r, 0, 2, 1, 0, "e", whole(1))
	equal(t, "Waiting", r.Waiting(), 3)
	polls(t, r, 1, 2, "ab")
	polls(t, r, 7, 1, "")
	polls(t, r, 0, 2, "e")
	pollsNone(t, r)
	takes(t, r, 0, 3, 1, 0, "f", whole(1))
	polls(t, r, 0, 3, "f")
	pollsNone(t, r)
}

func TestP202Many(t *testing.T) {
	r := receivers(t, many, long)
	for k := range many {
		takes(t, r, 3, uint64(2*many-2*k), 2, 0, "a", part(1))
	}
	equal(t, "Len", r.Len(), many)
	takes(t, r, 3, 1, 2, 0, "a", noRoom)
	takes(t, r, 4, 1, 2, 0, "a", noRoom)
	for k := range many {
		takes(t, r, 3, uint64(2*k+2), 2, 1, "b", whole(1))
		takes(t, r, 3, end, 2, 1, "b", noRoom)
	}
	equal(t, "Len", r.Len(), 0)
	for k := range many {
		takes(t, r, 3, uint64(2*k+1), 1, 0, "c", whole(1))
	}
	for k := range 2 * many {
		want := "ab"
		if k >= many {
			want = "c"
		}
		m, ok := r.Poll()
		if !ok || string(m.Data) != want {
			t.Fatalf("Poll %d: got %v, %v", k, m, ok)
		}
	}
	pollsNone(t, r)
	if room := cap(r.known.ids[3]); room > 8 {
		t.Errorf("none is known, and there is room for the ids of %d", room)
	}
	if r.ready.first != nil || r.ready.last != nil {
		t.Errorf("none waits, and one is kept")
	}
}

func TestP202Long(t *testing.T) {
	r := receivers(t, 1, long)
	takes(t, r, 0, 1, long+1, 0, "a", tooBig)
	data := string(bytesOf(0, 1, long))
	for off := long - 1500; off > 0; off -= 1500 {
		takes(t, r, 0, 1, long, off, data[off:off+1500], part(1500))
	}
	left := long % 1500
	lists(t, "Gaps", r.Gaps(0, 1, long, 9), []api.Range{{From: 0, To: left}})
	takes(t, r, 0, 1, long, 0, data[:1500], whole(left))
	polls(t, r, 0, 1, data)
}

func TestP203Retire(t *testing.T) {
	r := receivers(t, 9, 5)
	for _, id := range []uint64{2, 4, 6, 8} {
		takes(t, r, 1, id, 2, 0, "a", part(1))
	}
	takes(t, r, 2, 4, 2, 0, "a", part(1))
	takes(t, r, 1, 5, 1, 0, "e", whole(1))
	for _, src := range noHosts {
		equal(t, "Retire of no host", r.Retire(src, end), 0)
	}
	equal(t, "Retire", r.Retire(1, 0), 0)
	equal(t, "Retire", r.Retire(1, 1), 0)
	equal(t, "Retire", r.Retire(1, 2), 0)
	equal(t, "Len", r.Len(), 5)
	// Of those that are known 2 goes; the mark goes on over 5, and 6 stays.
	equal(t, "Retire", r.Retire(1, 4), 1)
	equal(t, "Retire", r.Retire(1, 5), 1)
	for id := range uint64(9) {
		equal(t, "Ended", r.Ended(1, id), id > 0 && id < 6)
		equal(t, "Have", have(r, 1, id).ok, id == 6 || id == 8)
	}
	takes(t, r, 1, 4, 2, 1, "b", over)
	takes(t, r, 1, 6, 2, 1, "b", whole(1))
	equal(t, "Have of another source", have(r, 2, 4), had{1, 2, true})
	equal(t, "Retire", r.Retire(1, math.MaxUint64), 1)
	equal(t, "Ended", r.Ended(1, end), true)
	equal(t, "Ended of none", r.Ended(1, end+1), false)
	takes(t, r, 1, end, 2, 0, "ab", over)
	takes(t, r, 1, end+1, 2, 0, "ab", badArg)
	equal(t, "Ended of another source", r.Ended(2, 4), false)
	equal(t, "Len", r.Len(), 1)
	equal(t, "Waiting", r.Waiting(), 2)
}

func TestP203RetireMany(t *testing.T) {
	r := receivers(t, many, 2)
	for k := range many {
		takes(t, r, 6, uint64(k+1), 2, 0, "a", part(1))
	}
	for k := range many - 2 {
		equal(t, "Retire", r.Retire(6, uint64(k+2)), 1)
	}
	equal(t, "Len", r.Len(), 2)
	if room := cap(r.known.ids[6]); room > 8 {
		t.Errorf("two are known, and there is room for the ids of %d", room)
	}
	takes(t, r, 6, many-2, 2, 0, "a", over)
	takes(t, r, 6, many-1, 2, 1, "b", whole(1))
	equal(t, "Retire", r.Retire(6, many), 0)
	equal(t, "Len", r.Len(), 1)
}

func TestP203NoneKnown(t *testing.T) {
	r := receivers(t, 9, 5)
	takes(t, r, 0, 1, 2, 0, "a", part(1))
	for _, src := range noHosts {
		equal(t, "Ended", r.Ended(src, 1), false)
		equal(t, "Have", have(r, src, 1), had{})
		lists(t, "Gaps", r.Gaps(src, 1, 9, 9), nil)
	}
	for _, id := range []uint64{0, 2, end, end + 1, math.MaxUint64} {
		equal(t, "Ended", r.Ended(0, id), false)
		equal(t, "Have", have(r, 0, id), had{})
		lists(t, "Gaps", r.Gaps(0, id, 9, 9), nil)
	}
}

func TestP203NoReceivers(t *testing.T) {
	for _, none := range []*Receivers{nil, {}, new(Receivers)} {
		takes(t, none, 0, 1, 0, 0, "", noRoom)
		takes(t, none, 7, end, math.MaxInt, 0, "a", noRoom)
		for _, src := range noHosts {
			takes(t, none, src, 1, 0, 0, "", badArg)
			equal(t, "Retire", none.Retire(src, 9), 0)
			equal(t, "Ended", none.Ended(src, 1), false)
			equal(t, "Have", have(none, src, 1), had{})
			lists(t, "Gaps", none.Gaps(src, 1, 9, 9), nil)
		}
		takes(t, none, 0, 0, 0, 0, "", badArg)
		takes(t, none, 0, end+1, 0, 0, "", badArg)
		takes(t, none, 0, 1, -1, 0, "", badArg)
		takes(t, none, 0, 1, 0, -1, "", badArg)
		takes(t, none, 0, 1, 0, 0, "a", badArg)
		equal(t, "Retire", none.Retire(0, math.MaxUint64), 0)
		equal(t, "Ended", none.Ended(0, 1), false)
		equal(t, "Have", have(none, 0, 1), had{})
		lists(t, "Gaps", none.Gaps(0, 1, 9, 9), nil)
		equal(t, "Len", none.Len(), 0)
		pollsNone(t, none)
	}
}

// TestP204Steps holds it step by step against the slow one. Most pieces are of the message that they tell of.
func TestP204Steps(t *testing.T) {
	for seed := range 200 {
		d := draws(seed)
		slow := slowOf(1+d.below(6), d.below(7))
		fast := receivers(t, slow.most, slow.maxMsg)
		// Half of them among the last ids that there are.
		from := uint64(0)
		if seed%2 == 1 {
			from = end - 9
			for src := range 8 {
				equal(t, "Retire", fast.Retire(src, from+1), slow.retire(src, from+1))
			}
		}
		sources := 1 + d.below(8)
		for range 150 {
			src, id := d.below(sources), from+1+uint64(d.below(10))
			switch d.below(40) {
			case 0:
				below := from + uint64(d.below(12))
				equal(t, "Retire", fast.Retire(src, below), slow.retire(src, below))
			case 1:
				src = -1 + 9*d.below(2)
			case 2:
				id = uint64(d.below(2)) * (end + 1)
			case 3, 4, 5, 6:
				m, ok := fast.Poll()
				equal(t, "Poll", ok, len(slow.ready) > 0)
				if ok {
					equal(t, "From", m.From, slow.ready[0].From)
					equal(t, "ID", m.ID, slow.ready[0].ID)
					lists(t, "Data", m.Data, slow.ready[0].Data)
					slow.ready = slow.ready[1:]
				}
			}
			total := int(id % 7)
			if d.below(20) == 0 {
				total = d.below(9) - 1
			}
			data := bytesOf(src, id, max(0, total))
			off := d.below(len(data) + 1)
			data = data[off : off+d.below(len(data)-off+1)]
			switch d.below(20) {
			case 0:
				off += d.below(5) - 2
			case 1:
				data = bytes.ToUpper(data)
			}
			takes(t, fast, src, id, total, off, string(data), slow.take(src, id, total, off, data))
			slow.sameAs(t, fast, from, from+12)
		}
		if t.Failed() {
			t.Fatalf("seed %d", seed)
		}
	}
}

// TestP204OnceAtMost lets all pieces of some messages come, doubled, in any order, till each one was delivered.
func TestP204OnceAtMost(t *testing.T) {
	for seed := range 30 {
		d := draws(seed)
		r := receivers(t, 3, 9)
		delivered := map[[2]int]int{}
		for range 40000 {
			src, id := d.below(8), 1+d.below(9)
			data := bytesOf(src, uint64(id), 1+id%9)
			off := d.below(len(data))
			_, done, _ := r.Data(src, uint64(id), len(data), off, data[off:min(len(data), off+3)])
			equal(t, "done", done, r.Ended(src, uint64(id)))
			for r.Waiting() > 0 {
				m, _ := r.Poll()
				lists(t, "Data", m.Data, bytesOf(m.From, m.ID, 1+int(m.ID)%9))
				delivered[[2]int{m.From, int(m.ID)}]++
			}
			// Else what is known of some for ever would leave no room for the others.
			if d.below(200) == 0 {
				for id := range uint64(10) {
					if !r.Ended(src, id) {
						finish(r, src, id, 1+int(id)%9)
					}
				}
			}
		}
		equal(t, "delivered", len(delivered), 72)
		for _, times := range delivered {
			equal(t, "times", times, 1)
		}
	}
}

// finish lets all of a message come, if it is known.
func finish(r *Receivers, src int, id uint64, total int) {
	if _, _, ok := r.Have(src, id); ok {
		r.Data(src, id, total, 0, bytesOf(src, id, total))
	}
}

func TestP204ReceiversKeepNothingOfOthers(t *testing.T) {
	r := receivers(t, 3, 9)
	in, held := guarded([]byte("abc"))
	fresh, done, e := r.Data(0, 1, 4, 0, in)
	equal(t, "Data", got{fresh, done, e}, part(3))
	held(t)
	spoil(in, 'x')
	gaps, other := r.Gaps(0, 1, 9, 9), r.Gaps(0, 1, 9, 9)
	spoil(gaps, api.Range{From: 7, To: 7})
	lists(t, "other Gaps", other, []api.Range{{From: 3, To: 4}})
	lists(t, "Gaps", r.Gaps(0, 1, 9, 9), []api.Range{{From: 3, To: 4}})
	takes(t, r, 0, 1, 4, 3, "d", whole(1))
	// All of it at once, too.
	in, held = guarded([]byte("efg"))
	fresh, done, e = r.Data(0, 2, 3, 0, in)
	equal(t, "Data", got{fresh, done, e}, whole(3))
	held(t)
	spoil(in, 'x')
	m, _ := r.Poll()
	equal(t, "Data", string(m.Data), "abcd")
	spoil(m.Data, 'y')
	polls(t, r, 0, 2, "efg")
}

func TestP204ReceiversApart(t *testing.T) {
	a, b := receivers(t, 3, 9), receivers(t, 3, 9)
	takes(t, a, 0, 1, 2, 0, "ab", whole(2))
	takes(t, a, 0, 2, 2, 0, "a", part(1))
	equal(t, "Retire", a.Retire(1, 5), 0)
	equal(t, "Ended", b.Ended(0, 1), false)
	equal(t, "Ended", b.Ended(1, 1), false)
	equal(t, "Len", b.Len(), 0)
	pollsNone(t, b)
	takes(t, b, 0, 1, 3, 0, "xyz", whole(3))
	polls(t, a, 0, 1, "ab")
	polls(t, b, 0, 1, "xyz")
}
