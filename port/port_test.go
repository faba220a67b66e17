package port

import (
	"math"
	"slices"
	"strconv"
	"strings"
	"testing"

	"mizzen/api"
)

func equal[T comparable](t *testing.T, what string, got, want T) {
	t.Helper()
	if got != want {
		t.Errorf("%s: got %v, want %v", what, got, want)
	}
}

// draws is a rule for numbers.
type draws uint64

func (d *draws) below(n int) int {
	*d = *d*6364136223846793005 + 1442695040888963407
	return int(uint64(*d)>>33) % n
}

// told is all of an item, as a text, in which nil data are as good as none.
func told(i Item) string {
	f := i.Frame
	var s strings.Builder
	for _, n := range []int{f.Kind, f.Src, f.Dst, f.Prio, f.Off, f.Len, f.Total, f.Num, i.Path} {
		s.WriteString(strconv.Itoa(n) + " ")
	}
	return s.String() + strconv.FormatUint(f.Msg, 10) + " " + strconv.Quote(string(f.Data))
}

func same(a, b Item) bool { return told(a) == told(b) }

// items holds two lists of items, of which nil is as good as an empty one.
func items(t *testing.T, what string, got, want []Item) {
	t.Helper()
	if !slices.EqualFunc(got, want, same) {
		t.Errorf("%s: got %d: %s\nwant %d: %s", what, len(got), short(got), len(want), short(want))
	}
}

// short is the first ones of a list, so that what fails is told in a few lines.
func short(list []Item) string {
	var s string
	for _, i := range list[:min(len(list), 10)] {
		s += "\n" + told(i)
	}
	return s
}

// answer is what Take and Drop tell, in one.
type answer struct {
	item string
	ok   bool
}

func yes(i Item) answer { return answer{told(i), true} }

func no() answer { return answer{told(Item{}), false} }

func take(p *Port, now int) answer {
	i, ok := p.Take(now)
	return answer{told(i), ok}
}

func drop(p *Port, k int) answer {
	i, ok := p.Drop(k)
	return answer{told(i), ok}
}

// made is an empty one.
func made(t *testing.T, room, credits int, trim bool) *Port {
	t.Helper()
	p, e := New(room, credits, trim)
	if p == nil || e != api.OK {
		t.Fatalf("New(%d, %d, %v): got %v, %v", room, credits, trim, p, e)
	}
	return p
}

// puts puts these in, and holds that each was queued.
func puts(t *testing.T, p *Port, l ...Item) {
	t.Helper()
	for _, i := range l {
		equal(t, "Put", p.Put(i), Queued)
	}
}

// at is what At tells.
func at(p *Port, k int) answer {
	i, ok := p.At(k)
	return answer{told(i), ok}
}

// stands holds all that can be told of a port without a turn: what waits, frames first, and what it uses.
func stands(t *testing.T, what string, p *Port, used, credits int, want ...Item) {
	t.Helper()
	items(t, what+": Waiting", p.Waiting(), want)
	equal(t, what+": Len", p.Len(), len(want))
	for k, i := range want {
		equal(t, what+": At", at(p, k), yes(i))
	}
	for _, none := range []int{math.MinInt, -1, len(want), len(want) + 1, math.MaxInt} {
		equal(t, what+": At of none", at(p, none), no())
	}
	equal(t, what+": Used", p.Used(), used)
	equal(t, what+": Credits", p.Credits(), credits)
}

// frame is one of that Kind with no field at an edge, told from others by n.
func frame(kind, prio, n int) Item {
	return Item{api.Frame{Kind: kind, Src: 3, Dst: 6, Prio: prio, Msg: uint64(n) + 1<<40, Off: 70000, Total: 1 << 29, Num: n}, 3*n - 10}
}

// data is an FData frame with so many bytes.
func data(prio, size, n int) Item {
	i := frame(api.FData, prio, n)
	i.Frame.Len = size
	i.Frame.Data = make([]byte, size)
	for k := range i.Frame.Data {
		i.Frame.Data[k] = byte(n + 7*k + 1)
	}
	return i
}

func credit(n int) Item { return frame(api.FCredit, 0, n) }

// head is what is left of an FData frame that is trimmed.
func head(i Item) Item {
	i.Frame.Kind, i.Frame.Prio, i.Frame.Data = api.FHeader, 7, nil
	return i
}

func TestP131New(t *testing.T) {
	for _, n := range []int{-1, math.MinInt, 1<<30 + 1, 1 << 32, 1 << 40, math.MaxInt} {
		for _, c := range [][2]int{{n, 0}, {0, n}, {n, 10}, {10, n}, {n, n}} {
			for _, trim := range []bool{false, true} {
				p, e := New(c[0], c[1], trim)
				equal(t, "error", e, api.ErrArg)
				equal(t, "beside an error", p, nil)
			}
		}
	}
	for _, room := range []int{0, 1, 26, 1500, 1<<30 - 1, 1 << 30} {
		for _, credits := range []int{0, 1, 100, 1<<30 - 1, 1 << 30} {
			p := made(t, room, credits, room > 100)
			stands(t, "an empty one", p, 0, 0)
			equal(t, "Take of an empty one", take(p, 0), no())
			equal(t, "Drop of an empty one", drop(p, 0), no())
			equal(t, "Double of an empty one", p.Double(0), false)
		}
	}
}

// TestP131Example: the chapter's.
func TestP131Example(t *testing.T) {
	p := made(t, 100, 1, false)
	equal(t, "a credit", p.Put(credit(1)), Queued)
	equal(t, "a second credit", p.Put(credit(2)), Dropped)
	stands(t, "one", p, 0, 1, credit(1))
}

// TestP131Bytes: 10's Size, of frames that may not be, too.
func TestP131Bytes(t *testing.T) {
	for kind := 1; kind <= 12; kind++ {
		want := 26
		if kind == api.FData {
			want = 1526
		}
		i := frame(kind, 0, 1)
		i.Frame.Len = 1500
		equal(t, "Bytes", i.Bytes(), want)
	}
	equal(t, "an FData without data", data(0, 0, 1).Bytes(), 26)
	equal(t, "an FData with one byte", data(0, 1, 1).Bytes(), 27)
	equal(t, "nothing", Item{}.Bytes(), 26)
	i := data(0, 5, 1)
	i.Frame.Len = 9
	equal(t, "by its Len", i.Bytes(), 35)
	i.Frame.Len = -20
	equal(t, "a Len below 0", i.Bytes(), 6)
	i.Frame.Len = math.MaxInt
	equal(t, "the greatest Len", i.Bytes() >= math.MaxInt-26, true)
	i.Frame.Kind = api.FAck
	equal(t, "no FData", i.Bytes(), 26)
}

// TestP131Credits: a line of their own, whatever room there is, and whatever their Prio.
func TestP131Credits(t *testing.T) {
	for _, room := range []int{0, 25, 26, 1000} {
		for _, most := range []int{0, 1, 2, 7} {
			for _, trim := range []bool{false, true} {
				p := made(t, room, most, trim)
				var want []Item
				for n := range most {
					c := credit(n)
					c.Frame.Prio = 9 - 3*n
					c.Frame.Len = 1500
					puts(t, p, c)
					want = append(want, c)
					stands(t, "credits", p, 0, n+1, want...)
				}
				for n := range 3 {
					equal(t, "one more", p.Put(credit(n)), Dropped)
					stands(t, "nothing changed", p, 0, most, want...)
				}
			}
		}
	}
}

// TestP131CreditsAgain: as soon as one goes there is room for one.
func TestP131CreditsAgain(t *testing.T) {
	p := made(t, 26, 2, true)
	puts(t, p, credit(1), credit(2), frame(api.FAck, 0, 3))
	equal(t, "one more", p.Put(credit(4)), Dropped)
	equal(t, "Take", take(p, 0), yes(credit(1)))
	puts(t, p, credit(5))
	equal(t, "one more", p.Put(credit(6)), Dropped)
	equal(t, "Drop", drop(p, 1), yes(credit(2)))
	puts(t, p, credit(7))
	equal(t, "one more", p.Put(credit(8)), Dropped)
	stands(t, "behind the others", p, 26, 2, frame(api.FAck, 0, 3), credit(5), credit(7))
}

// TestP131Prios: at its Prio, clamped; the frame's own stays.
func TestP131Prios(t *testing.T) {
	p := made(t, 10000, 0, false)
	lines := map[int][]Item{}
	n := 0
	for range 2 {
		for _, prio := range []int{3, 0, math.MinInt, 7, 8, -1, 1, 6, 2, math.MaxInt, 5, 4, 1 << 32, 1<<32 + 3, -1 << 32} {
			n++
			i := frame(1+n%9, prio, n)
			puts(t, p, i)
			at := min(max(prio, 0), 7)
			lines[at] = append(lines[at], i)
		}
	}
	var want []Item
	for prio := 7; prio >= 0; prio-- {
		want = append(want, lines[prio]...)
	}
	stands(t, "by lines", p, 26*n, 0, want...)
	for now, i := range want {
		equal(t, "Take", take(p, now), yes(i))
	}
	equal(t, "Take of nothing", take(p, n), no())
}

// TestP131Kinds: each Kind but FCredit stands in the queue, those that are none as well.
func TestP131Kinds(t *testing.T) {
	for _, kind := range []int{math.MinInt, -1, 0, 1, 2, 3, 4, 5, 6, 7, 8, 9, 10, 12, 13, 1 << 32, math.MaxInt} {
		for _, trim := range []bool{false, true} {
			p := made(t, 30, 5, trim)
			puts(t, p, frame(kind, 4, 1))
			stands(t, "one", p, 26, 0, frame(kind, 4, 1))
			equal(t, "no room", p.Put(frame(kind, 4, 2)), Dropped)
			stands(t, "nothing changed", p, 26, 0, frame(kind, 4, 1))
		}
	}
}

// TestP131Room: to the last byte, of all lines together.
func TestP131Room(t *testing.T) {
	p := made(t, 100, 0, false)
	a, b, c := data(2, 10, 1), frame(api.FAck, 5, 2), data(1, 12, 3)
	puts(t, p, a, b)
	for prio := range api.Prios {
		equal(t, "a byte too many", p.Put(data(prio, 13, 9)), Dropped)
		equal(t, "many too many", p.Put(data(prio, 1500, 9)), Dropped)
	}
	stands(t, "nothing changed", p, 62, 0, b, a)
	puts(t, p, c)
	stands(t, "to the last byte", p, 100, 0, b, a, c)
	equal(t, "one more", p.Put(frame(api.FStop, 7, 9)), Dropped)
	equal(t, "Take", take(p, 0), yes(b))
	equal(t, "a byte too many", p.Put(data(0, 1, 9)), Dropped)
	puts(t, p, data(0, 0, 4))
	stands(t, "again", p, 100, 0, a, c, data(0, 0, 4))
}

// TestP131Trimmed: what finds no room is trimmed, and goes first.
func TestP131Trimmed(t *testing.T) {
	p := made(t, 100, 0, true)
	a, b, c := data(6, 22, 1), data(3, 30, 2), data(0, 1, 3)
	puts(t, p, a)
	equal(t, "Put", p.Put(b), Trimmed)
	stands(t, "trimmed", p, 74, 0, head(b), a)
	equal(t, "Put", p.Put(c), Trimmed)
	stands(t, "trimmed, to the last byte", p, 100, 0, head(b), head(c), a)
	equal(t, "no room for that", p.Put(data(7, 1, 4)), Dropped)
	equal(t, "no room at all", p.Put(data(7, 0, 4)), Dropped)
	stands(t, "nothing changed", p, 100, 0, head(b), head(c), a)
	equal(t, "Take", take(p, 0), yes(head(b)))
	equal(t, "room for what is trimmed", p.Put(b), Trimmed)
	equal(t, "Take", take(p, 0), yes(head(c)))
	puts(t, p, data(2, 0, 5))
	equal(t, "Take", take(p, 0), yes(head(b)))
	equal(t, "Take", take(p, 0), yes(a))
	puts(t, p, b)
	stands(t, "there is room", p, 82, 0, b, data(2, 0, 5))

	f := head(b).Frame
	equal(t, "Len stays", f.Len, 30)
	equal(t, "what was handed in stays", told(b), told(data(3, 30, 2)))
}

// TestP131TrimmedEdges: at each room from none on.
func TestP131TrimmedEdges(t *testing.T) {
	for room := range 60 {
		for size := range 30 {
			i := data(4, size, 1)
			want, used, waits := Dropped, 0, []Item{}
			if room >= 26 {
				want, used, waits = Trimmed, 26, []Item{head(i)}
			}
			if room >= 26+size {
				want, used, waits = Queued, 26+size, []Item{i}
			}
			p := made(t, room, 3, true)
			equal(t, "trims", p.Put(i), want)
			stands(t, "trims", p, used, 0, waits...)
			if want == Trimmed {
				want, used, waits = Dropped, 0, nil
			}
			p = made(t, room, 3, false)
			equal(t, "does not trim", p.Put(i), want)
			stands(t, "does not trim", p, used, 0, waits...)
		}
	}
}

// TestP131OnlyData: what is trimmed already, or never had data, is dropped.
func TestP131OnlyData(t *testing.T) {
	p := made(t, 26+25, 3, true)
	puts(t, p, frame(api.FAck, 0, 1))
	for kind := 2; kind <= 12; kind++ {
		if kind == api.FCredit {
			continue
		}
		i := data(3, 40, 2)
		i.Frame.Kind = kind
		equal(t, "Put", p.Put(i), Dropped)
		p.Take(0)
		puts(t, p, i)
		p.Take(0)
		puts(t, p, frame(api.FAck, 0, 1))
	}
	stands(t, "nothing changed", p, 26, 0, frame(api.FAck, 0, 1))
}

// TestP131Unfit: frames that 10 would not write wait, and are trimmed, as they are.
func TestP131Unfit(t *testing.T) {
	i := Item{api.Frame{Kind: api.FData, Src: -1, Dst: 99, Prio: -7, Msg: math.MaxUint64, Off: math.MinInt, Len: 60, Total: -5, Num: math.MaxInt, Data: []byte("abc")}, math.MinInt}
	p := made(t, 200, 0, true)
	puts(t, p, i, i)
	stands(t, "two", p, 172, 0, i, i)
	equal(t, "trimmed", p.Put(i), Trimmed)
	stands(t, "three", p, 198, 0, head(i), i, i)

	i.Frame.Len = math.MaxInt
	p = made(t, 1<<30, 0, true)
	equal(t, "more than any room", p.Put(i), Queued)
	stands(t, "it counts as 2^30", p, 1<<30, 0, i)
	p = made(t, 1<<30-1, 0, true)
	equal(t, "more than the room", p.Put(i), Trimmed)
	stands(t, "its head", p, 26, 0, head(i))

	i.Frame.Len = math.MinInt
	p = made(t, 0, 0, true)
	puts(t, p, i, i)
	stands(t, "they count as 0", p, 0, 0, i, i)

	c := credit(1)
	c.Frame.Data, c.Frame.Len = []byte("abcd"), -100
	p = made(t, 0, 2, true)
	puts(t, p, c, c)
	equal(t, "one more", p.Put(c), Dropped)
	stands(t, "credits", p, 0, 2, c, c)
}

// TestP132Take: credits go first, one in 4 ticks, and the queue's meanwhile.
func TestP132Take(t *testing.T) {
	p := made(t, 1000, 5, false)
	puts(t, p, credit(1), credit(2), credit(3))
	for n := range 9 {
		puts(t, p, frame(api.FAck, n%2, 10+n))
	}
	for _, c := range []struct {
		now  int
		want Item
	}{
		{0, credit(1)}, {0, frame(api.FAck, 1, 11)}, {1, frame(api.FAck, 1, 13)}, {3, frame(api.FAck, 1, 15)},
		{4, credit(2)}, {4, frame(api.FAck, 1, 17)}, {7, frame(api.FAck, 0, 10)}, {9, credit(3)},
		{10, frame(api.FAck, 0, 12)}, {12, frame(api.FAck, 0, 14)}, {13, frame(api.FAck, 0, 16)}, {20, frame(api.FAck, 0, 18)},
	} {
		equal(t, "Take at "+strconv.Itoa(c.now), take(p, c.now), yes(c.want))
	}
	equal(t, "Take of nothing", take(p, 21), no())
	puts(t, p, credit(4), credit(5))
	equal(t, "long ago", take(p, 21), yes(credit(4)))
	equal(t, "too early, and nothing else", take(p, 22), no())
	equal(t, "too early, and nothing else", take(p, 24), no())
	stands(t, "it waits on", p, 0, 1, credit(5))
	equal(t, "none was put off", take(p, 25), yes(credit(5)))
	stands(t, "empty", p, 0, 0)
}

// TestP132AtOnce: the first credit goes at once, whenever that is, and whatever went before.
func TestP132AtOnce(t *testing.T) {
	for _, now := range []int{math.MinInt, -1, 0, 1, 3, 4, 5, 1000, api.MaxTime, math.MaxInt} {
		p := made(t, 100, 2, false)
		equal(t, "nothing", take(p, now), no())
		puts(t, p, frame(api.FAck, 0, 1))
		equal(t, "a frame", take(p, now), yes(frame(api.FAck, 0, 1)))
		puts(t, p, credit(2), credit(3))
		equal(t, "a credit", take(p, now), yes(credit(2)))
		equal(t, "another", take(p, now), no())
	}
}

// TestP132Rate: asked in each tick, or more often, a credit goes in each fourth.
func TestP132Rate(t *testing.T) {
	p := made(t, 0, 1000, false)
	for n := range 1000 {
		puts(t, p, credit(n))
	}
	gone := 0
	for now := range 400 {
		for ask := range 3 {
			want := no()
			if now%4 == 0 && ask == 0 {
				want = yes(credit(gone))
				gone++
			}
			equal(t, "Take", take(p, now), want)
		}
	}
	equal(t, "Credits", p.Credits(), 900)
}

// TestP132TimeNeverGoesBack: an earlier time is the latest one, whatever was taken then.
func TestP132TimeNeverGoesBack(t *testing.T) {
	p := made(t, 100, 5, false)
	puts(t, p, credit(1), credit(2), credit(3))
	equal(t, "Take", take(p, 10), yes(credit(1)))
	equal(t, "back", take(p, 0), no())
	equal(t, "far back", take(p, math.MinInt), no())
	equal(t, "4 ticks from there", take(p, 4), no())
	equal(t, "a tick too early", take(p, 13), no())
	equal(t, "on", take(p, 14), yes(credit(2)))

	// It went on while no credit waited, too.
	puts(t, p, frame(api.FAck, 0, 4))
	p.Drop(1)
	equal(t, "a frame", take(p, 100), yes(frame(api.FAck, 0, 4)))
	puts(t, p, credit(5), credit(6))
	equal(t, "back: it is 100", take(p, 15), yes(credit(5)))
	equal(t, "4 ticks from there", take(p, 19), no())
	equal(t, "a tick too early", take(p, 103), no())
	equal(t, "on", take(p, 104), yes(credit(6)))

	q := made(t, 0, 5, false)
	equal(t, "nothing", take(q, 50), no())
	puts(t, q, credit(1), credit(2))
	equal(t, "the first: it is 50", take(q, 7), yes(credit(1)))
	equal(t, "too early", take(q, 53), no())
	equal(t, "on", take(q, 54), yes(credit(2)))

	r := made(t, 0, 5, false)
	puts(t, r, credit(1), credit(2))
	equal(t, "below 0 is 0", take(r, -100), yes(credit(1)))
	equal(t, "a tick too early", take(r, 3), no())
	equal(t, "4 ticks", take(r, 4), yes(credit(2)))
}

// TestP132EndOfTime: behind MaxTime no tick goes by.
func TestP132EndOfTime(t *testing.T) {
	p := made(t, 100, 5, false)
	puts(t, p, credit(1), credit(2), credit(3))
	equal(t, "near the end", take(p, api.MaxTime-4), yes(credit(1)))
	equal(t, "ahead of it", take(p, api.MaxTime-1), no())
	equal(t, "at the end", take(p, api.MaxTime), yes(credit(2)))
	equal(t, "behind it", take(p, api.MaxTime+4), no())
	equal(t, "far behind it", take(p, math.MaxInt), no())
	puts(t, p, frame(api.FAck, 0, 4))
	equal(t, "frames go on", take(p, math.MaxInt), yes(frame(api.FAck, 0, 4)))
	stands(t, "it waits for ever", p, 0, 1, credit(3))
	q := made(t, 0, 5, false)
	puts(t, q, credit(1), credit(2))
	equal(t, "nearer", take(q, api.MaxTime-3), yes(credit(1)))
	equal(t, "never", take(q, math.MaxInt), no())
}

// TestP132Waiting: the lines from 7 down, then the credits, whichever came first; asking changes nothing.
func TestP132Waiting(t *testing.T) {
	p := made(t, 10000, 2, true)
	puts(t, p, credit(1))
	want := []Item{}
	for n := range 16 {
		puts(t, p, data(n%8, n, n))
	}
	puts(t, p, credit(2))
	used := 0
	for prio := 7; prio >= 0; prio-- {
		want = append(want, data(prio, prio, prio), data(prio, prio+8, prio+8))
		used += 2*26 + 2*prio + 8
	}
	want = append(want, credit(1), credit(2))
	for range 3 {
		stands(t, "all", p, used, 2, want...)
	}
}

// TestP132Drop: each one of what waits.
func TestP132Drop(t *testing.T) {
	all := []Item{data(7, 5, 1), data(7, 6, 2), frame(api.FPull, 5, 3), data(0, 7, 4), data(0, 8, 5), data(0, 9, 6), credit(7), credit(8), credit(9)}
	for k := range all {
		p := made(t, 1000, 3, true)
		puts(t, p, all...)
		equal(t, "Drop", drop(p, k), yes(all[k]))
		left := slices.Delete(slices.Clone(all), k, k+1)
		used, credits := 6*26+5+6+7+8+9, 3
		if all[k].Frame.Kind == api.FCredit {
			credits--
		} else {
			used -= all[k].Bytes()
		}
		stands(t, "dropped", p, used, credits, left...)
		for _, none := range []int{-1, math.MinInt, 8, 9, 1 << 32, math.MaxInt} {
			equal(t, "no such one", drop(p, none), no())
		}
		stands(t, "nothing changed", p, used, credits, left...)
		for n := range left {
			equal(t, "Drop of the first", drop(p, 0), yes(left[n]))
		}
		stands(t, "empty", p, 0, 0)
		equal(t, "Drop of nothing", drop(p, 0), no())
	}
}

// TestP132DropCredit: a credit that is dropped was not taken.
func TestP132DropCredit(t *testing.T) {
	p := made(t, 0, 3, false)
	puts(t, p, credit(1), credit(2), credit(3))
	equal(t, "Drop", drop(p, 0), yes(credit(1)))
	equal(t, "the first one that is taken", take(p, 0), yes(credit(2)))
	puts(t, p, credit(4))
	equal(t, "Drop", drop(p, 0), yes(credit(3)))
	equal(t, "too early", take(p, 3), no())
	equal(t, "4 ticks from the one that was taken", take(p, 4), yes(credit(4)))
}

// TestP132Double: each one of what waits, behind its line.
func TestP132Double(t *testing.T) {
	p := made(t, 1000, 4, true)
	a, b, c, d, e := data(7, 5, 1), data(3, 6, 2), frame(api.FPull, 3, 3), credit(4), credit(5)
	puts(t, p, a, b, c, d, e)
	for _, k := range []int{-1, math.MinInt, 5, 6, 1 << 32, math.MaxInt} {
		equal(t, "no such one", p.Double(k), false)
	}
	stands(t, "nothing changed", p, 89, 2, a, b, c, d, e)
	equal(t, "of line 3", p.Double(1), true)
	stands(t, "doubled", p, 121, 2, a, b, c, b, d, e)
	equal(t, "of line 7", p.Double(0), true)
	stands(t, "doubled", p, 152, 2, a, a, b, c, b, d, e)
	equal(t, "a credit", p.Double(6), true)
	stands(t, "doubled", p, 152, 3, a, a, b, c, b, d, e, e)
	equal(t, "a credit", p.Double(5), true)
	stands(t, "doubled", p, 152, 4, a, a, b, c, b, d, e, e, d)
	equal(t, "a credit too many", p.Double(6), false)
	stands(t, "nothing changed", p, 152, 4, a, a, b, c, b, d, e, e, d)
}

// TestP132DoubleNoRoom: as Put would: trimmed, or dropped.
func TestP132DoubleNoRoom(t *testing.T) {
	a, b := data(2, 5, 1), frame(api.FAck, 1, 2)
	p := made(t, 26+5+26+26, 0, true)
	puts(t, p, a, b)
	equal(t, "trimmed", p.Double(0), true)
	stands(t, "trimmed", p, 83, 0, head(a), a, b)
	for k := range 3 {
		equal(t, "dropped", p.Double(k), false)
	}
	stands(t, "nothing changed", p, 83, 0, head(a), a, b)
	equal(t, "Drop", drop(p, 1), yes(a))
	equal(t, "a head, as it is", p.Double(0), true)
	stands(t, "two heads", p, 78, 0, head(a), head(a), b)
	q := made(t, 26+5+26+26, 0, false)
	puts(t, q, a, b)
	equal(t, "does not trim", q.Double(0), false)
	equal(t, "but there is room for it", q.Double(1), true)
	stands(t, "doubled", q, 83, 0, a, b, b)
}

// TestP132Lines: one that was clamped is doubled in the same line.
func TestP132Lines(t *testing.T) {
	p := made(t, 1000, 0, false)
	a, b, c := frame(api.FAck, 99, 1), frame(api.FAck, 7, 2), frame(api.FAck, -99, 3)
	puts(t, p, a, b, c)
	equal(t, "Double", p.Double(2), true)
	equal(t, "Double", p.Double(0), true)
	stands(t, "doubled", p, 5*26, 0, a, b, a, c, c)
}

func TestP132Nil(t *testing.T) {
	var p *Port
	for range 2 {
		for _, n := range []int{0, 1, -1, math.MinInt, math.MaxInt} {
			equal(t, "Put", p.Put(data(n, 3, 1)), Dropped)
			equal(t, "Put of a credit", p.Put(credit(1)), Dropped)
			equal(t, "Put of nothing", p.Put(Item{}), Dropped)
			equal(t, "Take", take(p, n), no())
			equal(t, "Drop", drop(p, n), no())
			equal(t, "Double", p.Double(n), false)
			stands(t, "a nil one", p, 0, 0)
		}
	}
}

// TestP132Zero: a Port that New did not make has no room, and does not panic.
func TestP132Zero(t *testing.T) {
	var p Port
	equal(t, "Put", p.Put(data(0, 3, 1)), Dropped)
	equal(t, "Put of a credit", p.Put(credit(1)), Dropped)
	equal(t, "Take", take(&p, 0), no())
	equal(t, "Drop", drop(&p, 0), no())
	equal(t, "Double", p.Double(0), false)
	stands(t, "an empty one", &p, 0, 0)
}
