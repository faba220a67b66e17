package reasm

import (
	"math"
	"slices"
	"testing"

	"mizzen/api"
)

const top = 1 << 30

func equal[T comparable](t *testing.T, what string, got, want T) {
	t.Helper()
	if got != want {
		t.Errorf("%s: got %v, want %v", what, got, want)
	}
}

// lists holds two lists, of which nil is as good as an empty one.
func lists(t *testing.T, what string, got, want []api.Range) {
	t.Helper()
	if !slices.Equal(got, want) {
		t.Errorf("%s: got %d: %v, want %d: %v", what, len(got), short(got), len(want), short(want))
	}
}

// texts holds two texts, long ones too.
func texts(t *testing.T, what, got, want string) {
	t.Helper()
	if got != want {
		t.Errorf("%s: got %d: %q, want %d: %q", what, len(got), short([]byte(got)), len(want), short([]byte(want)))
	}
}

// short is the first ones of a list, so that what fails is told in a few lines.
func short[T any](list []T) []T {
	return list[:min(len(list), 20)]
}

// at is ranges, from their ends in pairs.
func at(ends ...int) []api.Range {
	var list []api.Range
	for i := 0; i < len(ends); i += 2 {
		list = append(list, api.Range{From: ends[i], To: ends[i+1]})
	}
	return list
}

// made is one of which nothing came.
func made(t *testing.T, total int) *Buf {
	t.Helper()
	b, e := New(total, total)
	if b == nil || e != api.OK {
		t.Fatalf("New(%d, %d): got %v, %v", total, total, b, e)
	}
	return b
}

// puts holds that these bytes go in.
func puts(t *testing.T, b *Buf, off int, data string, want int) {
	t.Helper()
	fresh, e := b.Put(off, []byte(data))
	equal(t, "fresh", fresh, want)
	equal(t, "error", e, api.OK)
}

// refuses holds that these bytes don't go in, and that nothing of them is there then.
func refuses(t *testing.T, b *Buf, off int, data string, want api.Errno) {
	t.Helper()
	left, front, gaps := b.Left(), b.Front(), b.Gaps(top, top)
	fresh, e := b.Put(off, []byte(data))
	equal(t, "beside an error", fresh, 0)
	equal(t, "error", e, want)
	equal(t, "left as it was", b.Left(), left)
	equal(t, "front as it was", b.Front(), front)
	lists(t, "gaps as they were", b.Gaps(top, top), gaps)
}

// whole holds that all of it is there.
func whole(t *testing.T, b *Buf, want string) {
	t.Helper()
	data, ok := b.Data()
	equal(t, "all is there", ok, true)
	texts(t, "all of it", string(data), want)
	equal(t, "left of all", b.Left(), 0)
	equal(t, "front of all", b.Front(), len(want))
	lists(t, "gaps of all", b.Gaps(top, top), nil)
}

// wanting holds that not all of it is there.
func wanting(t *testing.T, b *Buf, left int) {
	t.Helper()
	data, ok := b.Data()
	equal(t, "not all is there", ok, false)
	equal(t, "nothing beside it", len(data), 0)
	equal(t, "left", b.Left(), left)
}

// draws is a rule for numbers.
type draws uint64

func (d *draws) below(n int) int {
	*d = *d*6364136223846793005 + 1442695040888963407
	return int(uint64(*d)>>33) % n
}

// pattern is bytes of which no two near ones are alike.
func pattern(n int) []byte {
	data := make([]byte, n)
	for i := range data {
		data[i] = byte(i*7 + i>>8)
	}
	return data
}

// slow is a message that keeps each byte of its own, and -1 where none came.
type slow []int

func slowly(total int) slow {
	s := make(slow, total)
	for i := range s {
		s[i] = -1
	}
	return s
}

func (s slow) put(off int, data []byte) (fresh int, e api.Errno) {
	if off < 0 || off > len(s) || len(data) > len(s)-off {
		return 0, api.ErrArg
	}
	for i, x := range data {
		if s[off+i] >= 0 && s[off+i] != int(x) {
			return 0, api.ErrBad
		}
	}
	for i, x := range data {
		if s[off+i] < 0 {
			s[off+i] = int(x)
			fresh++
		}
	}
	return fresh, api.OK
}

// gaps is which are wanting, ahead of upto, the first most.
func (s slow) gaps(upto, most int) []api.Range {
	var list []api.Range
	for i := range max(0, min(upto, len(s))) {
		switch {
		case s[i] >= 0:
		case i > 0 && s[i-1] < 0:
			list[len(list)-1].To = i + 1
		default:
			list = append(list, api.Range{From: i, To: i + 1})
		}
	}
	return list[:max(0, min(most, len(list)))]
}

func (s slow) left() int {
	n := 0
	for _, x := range s {
		if x < 0 {
			n++
		}
	}
	return n
}

func (s slow) front() int {
	return slices.Index(append(slices.Clone(s), -1), -1)
}

func (s slow) data() []byte {
	if s.left() > 0 {
		return nil
	}
	var data []byte
	for _, x := range s {
		data = append(data, byte(x))
	}
	return data
}

// same holds all that can be told of both.
func same(t *testing.T, b *Buf, s slow) {
	t.Helper()
	equal(t, "Total", b.Total(), len(s))
	equal(t, "Left", b.Left(), s.left())
	equal(t, "Front", b.Front(), s.front())
	lists(t, "Gaps", b.Gaps(len(s), len(s)+1), s.gaps(len(s), len(s)+1))
	data, ok := b.Data()
	equal(t, "all is there", ok, s.left() == 0)
	texts(t, "all of it", string(data), string(s.data()))
}

// samePut puts into both.
func samePut(t *testing.T, b *Buf, s slow, off int, data []byte) {
	t.Helper()
	want, wrong := s.put(off, data)
	fresh, e := b.Put(off, data)
	equal(t, "Put", fresh, want)
	equal(t, "error of Put", e, wrong)
}

func TestP71New(t *testing.T) {
	for _, c := range []struct {
		total, most int
		want        api.Errno
	}{
		{-1, 5, api.ErrArg}, {5, -1, api.ErrArg}, {-1, -1, api.ErrArg}, {-2, -1, api.ErrArg}, {-1, -2, api.ErrArg},
		{math.MinInt, 5, api.ErrArg}, {5, math.MinInt, api.ErrArg}, {math.MinInt, math.MinInt, api.ErrArg}, {0, -1, api.ErrArg}, {-1, 0, api.ErrArg},
		{top + 1, top, api.ErrArg}, {top + 1, top + 1, api.ErrArg}, {top, top + 1, api.ErrArg}, {5, top + 1, api.ErrArg}, {top + 1, 5, api.ErrArg},
		{math.MaxInt, 5, api.ErrArg}, {5, math.MaxInt, api.ErrArg}, {math.MaxInt, math.MaxInt, api.ErrArg}, {1 << 31, 1 << 31, api.ErrArg}, {1 << 32, 1 << 32, api.ErrArg},
		{6, 5, api.ErrBig}, {1, 0, api.ErrBig}, {top, top - 1, api.ErrBig}, {top, 0, api.ErrBig},
	} {
		b, e := New(c.total, c.most)
		equal(t, "error", e, c.want)
		equal(t, "beside an error", b, nil)
	}
	for _, c := range [][2]int{{0, 0}, {0, 1}, {0, top}, {1, 1}, {5, 5}, {5, 6}, {1, top}, {api.MaxMsg, api.MaxMsg}, {top - 1, top}, {top, top}} {
		b, e := New(c[0], c[1])
		equal(t, "error", e, api.OK)
		equal(t, "Total", b.Total(), c[0])
		equal(t, "Left", b.Left(), c[0])
		equal(t, "Front", b.Front(), 0)
	}
}

func TestP71Put(t *testing.T) {
	b := made(t, 3)
	puts(t, b, 1, "bc", 2)
	wanting(t, b, 1)
	puts(t, b, 0, "a", 1)
	whole(t, b, "abc")

	b = made(t, 10)
	puts(t, b, 2, "cde", 3)
	puts(t, b, 2, "cde", 0)
	puts(t, b, 3, "d", 0)
	puts(t, b, 4, "ef", 1)
	puts(t, b, 1, "bc", 1)
	puts(t, b, 8, "i", 1)
	wanting(t, b, 4)
	puts(t, b, 0, "abcdefghij", 4)
	whole(t, b, "abcdefghij")
	puts(t, b, 0, "abcdefghij", 0)
	puts(t, b, 9, "j", 0)
	whole(t, b, "abcdefghij")
}

// TestP71PutNone: of no bytes none are fresh, at each place that is in the message, or right behind it.
func TestP71PutNone(t *testing.T) {
	b := made(t, 4)
	puts(t, b, 1, "bc", 2)
	for off := range 5 {
		puts(t, b, off, "", 0)
		wanting(t, b, 2)
		lists(t, "its gaps", b.Gaps(9, 9), at(0, 1, 3, 4))
	}
	fresh, e := b.Put(4, nil)
	equal(t, "fresh of nil", fresh, 0)
	equal(t, "error of nil", e, api.OK)
	refuses(t, b, 5, "", api.ErrArg)
	refuses(t, b, -1, "", api.ErrArg)
}

func TestP71PutWrong(t *testing.T) {
	b := made(t, 6)
	puts(t, b, 1, "bc", 2)
	for _, off := range []int{-1, -2, -6, math.MinInt, math.MinInt + 1, 7, 8, 1 << 31, 1 << 32, 1<<32 + 1, 1 << 62, math.MaxInt - 1, math.MaxInt} {
		refuses(t, b, off, "", api.ErrArg)
		refuses(t, b, off, "a", api.ErrArg)
		refuses(t, b, off, "abcdefghijk", api.ErrArg)
	}
	for off := range 7 {
		refuses(t, b, off, "abcdefg"[off:], api.ErrArg)
	}
	refuses(t, b, 0, "aXcdefg", api.ErrArg)
	refuses(t, b, -1, "!XX", api.ErrArg)
	wanting(t, b, 4)
	puts(t, b, 0, "abcdef", 4)
	whole(t, b, "abcdef")
	refuses(t, b, 0, "abcdefg", api.ErrArg)
	refuses(t, b, 0, "Xbcdefg", api.ErrArg)
}

// TestP71PutOther: of bytes one of which is another one, wherever it stands among them, none is put.
func TestP71PutOther(t *testing.T) {
	message := "abcdefghijklmnopqrst"
	b := made(t, len(message))
	puts(t, b, 1, message[1:3], 2)
	puts(t, b, 6, message[6:7], 1)
	puts(t, b, 10, message[10:15], 5)
	for from := range len(message) {
		for to := from; to <= len(message); to++ {
			for _, i := range []int{1, 2, 6, 10, 11, 12, 13, 14} {
				if i < from || i >= to {
					continue
				}
				other := []byte(message)
				other[i]++
				refuses(t, b, from, string(other[from:to]), api.ErrBad)
			}
		}
	}
	// Where nothing came, any byte is as good as another: nothing of what was refused is there.
	for _, gap := range b.Gaps(len(message), len(message)) {
		puts(t, b, gap.From, "ZZZZZ"[:gap.To-gap.From], gap.To-gap.From)
	}
	whole(t, b, "ZbcZZZgZZZklmnoZZZZZ")
}

// TestP71PutNoughts: a byte that came is there, a nought too, and one that did not come is no nought.
func TestP71PutNoughts(t *testing.T) {
	b := made(t, 4)
	puts(t, b, 0, "\x00", 1)
	puts(t, b, 0, "\x00", 0)
	refuses(t, b, 0, "a", api.ErrBad)
	puts(t, b, 1, "b", 1)
	refuses(t, b, 1, "\x00", api.ErrBad)
	refuses(t, b, 0, "\x00\x00", api.ErrBad)
	refuses(t, b, 0, "\x00\x00cd", api.ErrBad)
	wanting(t, b, 2)
	puts(t, b, 1, "b\xff\x00", 2)
	whole(t, b, "\x00b\xff\x00")
}

func TestP71Left(t *testing.T) {
	b := made(t, 10)
	wanting(t, b, 10)
	puts(t, b, 4, "ef", 2)
	wanting(t, b, 8)
	equal(t, "a gap at 0", b.Front(), 0)
	puts(t, b, 0, "ab", 2)
	wanting(t, b, 6)
	equal(t, "up to the gap", b.Front(), 2)
	puts(t, b, 2, "cd", 2)
	wanting(t, b, 4)
	equal(t, "over what came ahead", b.Front(), 6)
	puts(t, b, 9, "j", 1)
	wanting(t, b, 3)
	equal(t, "not over the gap", b.Front(), 6)
	puts(t, b, 6, "ghi", 3)
	whole(t, b, "abcdefghij")
	equal(t, "Total", b.Total(), 10)
}

func TestP71Gaps(t *testing.T) {
	b := made(t, 10)
	lists(t, "of an empty one", b.Gaps(10, 1), at(0, 10))
	puts(t, b, 2, "c", 1)
	puts(t, b, 5, "fg", 2)
	all := at(0, 2, 3, 5, 7, 10)
	for _, upto := range []int{10, 11, 1000, math.MaxInt} {
		for most := range 4 {
			lists(t, "the first ones", b.Gaps(upto, most), all[:most])
		}
		lists(t, "all", b.Gaps(upto, math.MaxInt), all)
		lists(t, "none below 1", b.Gaps(upto, -1), nil)
		lists(t, "none at the least", b.Gaps(upto, math.MinInt), nil)
	}
	lists(t, "ahead of a gap's end", b.Gaps(4, 9), at(0, 2, 3, 4))
	lists(t, "ahead of a gap", b.Gaps(3, 9), at(0, 2))
	lists(t, "in the first gap", b.Gaps(1, 9), at(0, 1))
	for _, upto := range []int{0, -1, math.MinInt} {
		lists(t, "ahead of nothing", b.Gaps(upto, 9), nil)
	}
}

func TestP71NoBytes(t *testing.T) {
	b := made(t, 0)
	whole(t, b, "")
	puts(t, b, 0, "", 0)
	refuses(t, b, 0, "a", api.ErrArg)
	refuses(t, b, 1, "", api.ErrArg)
	refuses(t, b, -1, "", api.ErrArg)
	whole(t, b, "")
}

func TestP71Nil(t *testing.T) {
	for _, b := range []*Buf{nil, {}} {
		for _, off := range []int{0, 1, -1, top, math.MaxInt, math.MinInt} {
			for _, data := range []string{"", "a", "abc"} {
				refuses(t, b, off, data, api.ErrArg)
			}
			lists(t, "gaps", b.Gaps(off, 9), nil)
			lists(t, "gaps", b.Gaps(9, off), nil)
		}
		wanting(t, b, 0)
		equal(t, "Total", b.Total(), 0)
		equal(t, "Front", b.Front(), 0)
	}
}

// TestP71AtTheEnd: the longest message, of which only what came takes room.
func TestP71AtTheEnd(t *testing.T) {
	b := made(t, top)
	puts(t, b, top-1, "z", 1)
	puts(t, b, 0, "a", 1)
	puts(t, b, top, "", 0)
	puts(t, b, top-2, "yz", 1)
	refuses(t, b, top-2, "yy", api.ErrBad)
	refuses(t, b, top-1, "zz", api.ErrArg)
	refuses(t, b, top, "z", api.ErrArg)
	refuses(t, b, top+1, "", api.ErrArg)
	wanting(t, b, top-3)
	equal(t, "front", b.Front(), 1)
	lists(t, "all between", b.Gaps(math.MaxInt, math.MaxInt), at(1, top-2))
	equal(t, "pages", len(b.pages), 2)
}

// TestP71Refused: what is refused takes no room, either.
func TestP71Refused(t *testing.T) {
	b := made(t, 20000)
	puts(t, b, 3000, "abc", 3)
	other := make([]byte, 20000)
	refuses(t, b, 0, string(other), api.ErrBad)
	refuses(t, b, 2990, string(other[:15000]), api.ErrBad)
	refuses(t, b, 1, string(other), api.ErrArg)
	equal(t, "pages", len(b.pages), 1)
}

// TestP71Pages: at the ends of what is kept together, and over them.
func TestP71Pages(t *testing.T) {
	for _, total := range []int{pageBytes - 1, pageBytes, pageBytes + 1, 2*pageBytes - 1, 2 * pageBytes, 2*pageBytes + 1, 5*pageBytes + 7} {
		message := pattern(total)
		for _, size := range []int{1, pageBytes - 1, pageBytes, pageBytes + 1, api.MaxMTU, 3 * pageBytes, total} {
			b, s := made(t, total), slowly(total)
			for off := 0; off < total; off += 2 * size {
				samePut(t, b, s, off, message[off:min(off+size, total)])
			}
			same(t, b, s)
			for i := range total {
				// Another byte is refused at each place, the first one and the last one of each page, too.
				if s[i] >= 0 {
					samePut(t, b, s, i, []byte{message[i] + 1})
				}
			}
			samePut(t, b, s, 0, message)
			same(t, b, s)
			if t.Failed() {
				t.Fatalf("%d bytes, %d at once", total, size)
			}
		}
	}
}

// TestP71Slow holds all calls step by step against a message that keeps each byte of its own.
func TestP71Slow(t *testing.T) {
	d := draws(7)
	for _, total := range []int{0, 1, 2, 3, 5, 8, 13, 40, 100, 1023, 1024, 1025, 3000} {
		// Its byte off is at off + 1, so that there is one ahead of it, and some behind it.
		message := pattern(2*total + 10)
		for range 30 {
			b, s := made(t, total), slowly(total)
			size := 1 + d.below(1+total/2)
			for range 60 {
				off := d.below(total+4) - 1
				data := slices.Clone(message[off+1:][:d.below(size+1)])
				if len(data) > 0 && d.below(4) == 0 {
					data[d.below(len(data))] ^= byte(d.below(2))
				}
				samePut(t, b, s, off, data)
				upto, most := d.below(total+4)-1, d.below(6)-1
				lists(t, "the first gaps", b.Gaps(upto, most), s.gaps(upto, most))
			}
			same(t, b, s)
			if t.Failed() {
				t.Fatalf("%d bytes, %d at once", total, size)
			}
		}
	}
}

// TestP71ManyRuns: every other byte, and then all of them at once, with another one at the end, and as they are.
func TestP71ManyRuns(t *testing.T) {
	const total = 1 << 17
	message := pattern(total)
	b := made(t, total)
	for i := 0; i < total; i += 2 {
		if fresh, e := b.Put(i, message[i:i+1]); fresh != 1 || e != api.OK {
			t.Fatalf("Put at %d: got %d, %v", i, fresh, e)
		}
	}
	wanting(t, b, total/2)
	other := slices.Clone(message)
	other[total-2]++
	refuses(t, b, 0, string(other), api.ErrBad)
	puts(t, b, 0, string(message), total/2)
	whole(t, b, string(message))
}

// orders calls each with all orders of n numbers.
func orders(n int, each func(order []int)) {
	var next func(order []int)
	next = func(order []int) {
		if len(order) == n {
			each(order)
		}
		for i := range n {
			if !slices.Contains(order, i) {
				next(append(slices.Clone(order), i))
			}
		}
	}
	next(nil)
}

// TestP72Orders: pieces that overlap, in all orders, and each of them doubled.
func TestP72Orders(t *testing.T) {
	message := "abcdefghijklmnop"
	pieces := at(0, 5, 3, 8, 4, 6, 8, 12, 7, 9, 11, 16)
	orders(len(pieces), func(order []int) {
		if t.Failed() {
			return
		}
		b := made(t, len(message))
		sum := 0
		for _, i := range order {
			r := pieces[i]
			fresh, e := b.Put(r.From, []byte(message[r.From:r.To]))
			equal(t, "error", e, api.OK)
			sum += fresh
			equal(t, "so many came", b.Left(), len(message)-sum)
			puts(t, b, r.From, message[r.From:r.To], 0)
		}
		whole(t, b, message)
	})
}

// TestP72Drawn: messages as long as they may be, in pieces of any place and length, until all is there.
func TestP72Drawn(t *testing.T) {
	d := draws(72)
	for _, total := range []int{1, 19, 1500, 1501, 3000, api.MaxMsg, 100000} {
		message := pattern(total)
		b := made(t, total)
		for left := total; left > 0; left = b.Left() {
			off := d.below(total)
			if gaps := b.Gaps(total, 3); d.below(3) == 0 {
				off = gaps[len(gaps)-1].From
			}
			to := min(total, off+1+d.below(api.MaxMTU))
			fresh, e := b.Put(off, message[off:to])
			if e != api.OK || b.Left() != left-fresh {
				t.Fatalf("Put at %d of %d: got %d, %v, and %d of %d are wanting", off, total, fresh, e, b.Left(), left)
			}
		}
		whole(t, b, string(message))
	}
}

// TestP72HandedIn: it is neither changed, its spare room neither, nor kept.
func TestP72HandedIn(t *testing.T) {
	for _, in := range []string{"abc", "abX"} {
		b := made(t, 6)
		puts(t, b, 2, "c", 1)
		room := []byte(in + "defgh")
		b.Put(0, room[:3])
		texts(t, "what was handed in, with its spare room", string(room), in+"defgh")
		clear(room)
		b.Put(0, []byte("abcdef"))
		whole(t, b, "abcdef")
	}
}

func TestP72NewMemory(t *testing.T) {
	for _, total := range []int{6, pageBytes, 3*pageBytes + 5} {
		message := string(pattern(total))
		b := made(t, total)
		puts(t, b, 1, message[1:4], 3)
		gaps, holes := b.Gaps(total, 9), b.Gaps(total, 9)
		clear(gaps[:cap(gaps)])
		lists(t, "another list", holes, at(0, 1, 4, total))
		lists(t, "a later list", b.Gaps(total, 9), at(0, 1, 4, total))

		puts(t, b, 0, message, total-3)
		data, _ := b.Data()
		again, _ := b.Data()
		clear(data[:cap(data)])
		texts(t, "another answer", string(again), message)
		whole(t, b, message)
		puts(t, b, 0, message, 0)
		refuses(t, b, 0, string(make([]byte, total)), api.ErrBad)
	}
}

// TestP72Apart: two have nothing in common.
func TestP72Apart(t *testing.T) {
	a, b := made(t, 4), made(t, 4)
	puts(t, a, 0, "ab", 2)
	puts(t, b, 0, "XYZ", 3)
	wanting(t, a, 2)
	wanting(t, b, 1)
	puts(t, a, 1, "bcd", 2)
	puts(t, b, 3, "!", 1)
	whole(t, a, "abcd")
	whole(t, b, "XYZ!")
}
