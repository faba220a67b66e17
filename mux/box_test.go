package mux

import (
	"math"
	"slices"
	"testing"

	"mizzen/api"
)

// made is a box of so much room, with these in it.
func made[T any](t *testing.T, room int, in ...T) *Box[T] {
	t.Helper()
	b, e := New[T](room)
	if b == nil || e != api.OK {
		t.Fatalf("New(%d): got %v, %v", room, b, e)
	}
	for _, v := range in {
		if !b.Offer(v) {
			t.Fatalf("Offer to a box of %d: got false, want true", room)
		}
	}
	return b
}

// takes holds what Take tells.
func takes[T comparable](t *testing.T, what string, b *Box[T], want T, there bool) {
	t.Helper()
	v, ok := b.Take()
	equal(t, what+": Take", ok, there)
	equal(t, what+": Take: what", v, want)
}

// holds holds what is in a box, and puts it back.
func holds[T comparable](t *testing.T, what string, b *Box[T], want ...T) {
	t.Helper()
	equal(t, what+": Len", b.Len(), len(want))
	in := b.Drain(len(want) + 1)
	lists(t, what, in, want)
	for _, v := range in {
		equal(t, what+": back", b.Offer(v), true)
	}
}

// firsts holds what First tells.
func firsts[T comparable](t *testing.T, what string, from int, v T, ok bool, l ...*Box[T]) {
	t.Helper()
	gotFrom, gotV, gotOK := First(l...)
	equal(t, what+": from", gotFrom, from)
	equal(t, what+": what", gotV, v)
	equal(t, what+": ok", gotOK, ok)
}

func TestP112New(t *testing.T) {
	for _, room := range []int{-1, -10000, math.MinInt, 10001, 1 << 32, 1<<32 + 5, math.MaxInt} {
		b, e := New[string](room)
		equal(t, "error", e, api.ErrArg)
		equal(t, "beside an error", b, nil)
	}
	for _, room := range []int{0, 1, 2, 9999, 10000} {
		b := made[string](t, room)
		equal(t, "Len", b.Len(), 0)
		takes(t, "an empty one", b, "", false)
		lists(t, "Drain of an empty one", b.Drain(5), nil)
		firsts(t, "an empty one", -1, "", false, b)
	}
}

// TestP112Room: as many as there is room for, and no more.
func TestP112Room(t *testing.T) {
	for _, room := range []int{0, 1, 2, 3, 10000} {
		b := made[int](t, room)
		for i := range room {
			equal(t, "Offer", b.Offer(i), true)
			equal(t, "Len", b.Len(), i+1)
		}
		for range 3 {
			equal(t, "Offer to a full one", b.Offer(-1), false)
			equal(t, "Len of a full one", b.Len(), room)
		}
		for i := range room {
			takes(t, "in order", b, i, true)
			equal(t, "Len", b.Len(), room-i-1)
		}
		takes(t, "none is left", b, 0, false)
		equal(t, "room again", b.Offer(7), room > 0)
	}
}

func TestP112Take(t *testing.T) {
	b := made(t, 2, "x", "y")
	takes(t, "the first one", b, "x", true)
	equal(t, "room again", b.Offer("z"), true)
	equal(t, "no room", b.Offer("w"), false)
	takes(t, "what stood behind it", b, "y", true)
	takes(t, "the last one", b, "z", true)
	takes(t, "none", b, "", false)
	takes(t, "none again", b, "", false)
	equal(t, "Len", b.Len(), 0)
	// A zero one is something, too.
	b.Offer("")
	equal(t, "Len of a zero one", b.Len(), 1)
	takes(t, "a zero one", b, "", true)
	takes(t, "none behind it", b, "", false)
}

func TestP112Drain(t *testing.T) {
	for _, most := range []int{0, -1, -5, math.MinInt} {
		b := made(t, 5, 1, 2, 3)
		lists(t, "Drain of less than 1", b.Drain(most), nil)
		holds(t, "they stay", b, 1, 2, 3)
	}
	for most := 1; most <= 5; most++ {
		b := made(t, 5, 1, 2, 3)
		in := []int{1, 2, 3}
		n := min(most, 3)
		lists(t, "Drain", b.Drain(most), in[:n])
		holds(t, "what stays", b, in[n:]...)
	}
	for _, most := range []int{10000, 10001, 1 << 40, math.MaxInt} {
		b := made[int](t, 10000)
		var want []int
		for i := range 10000 {
			want = append(want, i)
			b.Offer(i)
		}
		lists(t, "Drain of all", b.Drain(most), want)
		equal(t, "Len", b.Len(), 0)
		lists(t, "Drain of nothing", b.Drain(most), nil)
		equal(t, "room again", b.Offer(1), true)
	}
	b := made(t, 3, 0, 0)
	lists(t, "zero ones", b.Drain(3), []int{0, 0})
}

func TestP112First(t *testing.T) {
	var none *Box[string]
	empty, a, b := made[string](t, 3), made(t, 3, "a", "aa"), made(t, 3, "b")
	firsts(t, "no box", -1, "", false)
	firsts(t, "none has", -1, "", false, empty, none, empty)
	firsts(t, "the last one has", 3, "a", true, empty, none, empty, a)
	firsts(t, "in order", 0, "b", true, b, a)
	holds(t, "of the others nothing is taken", a, "aa")
	firsts(t, "the first one is empty", 1, "aa", true, b, a)
	firsts(t, "all are empty", -1, "", false, b, a, empty)
	// One that is there twice, and zero ones.
	c := made(t, 3, "", "c")
	firsts(t, "a zero one", 1, "", true, a, c, c)
	firsts(t, "twice", 0, "c", true, c, c)
	firsts(t, "twice, and empty", -1, "", false, c, c)
	l := []*Box[string]{empty, none, made(t, 1, "z")}
	kept := slices.Clone(l)
	firsts(t, "a list that is handed in", 2, "z", true, l...)
	lists(t, "the list", l, kept)
}

// TestP112Nil: also of one that New did not make, of which the chapter says only what holds of all calls.
func TestP112Nil(t *testing.T) {
	for _, b := range []*Box[int]{nil, {}} {
		equal(t, "Offer", b.Offer(1), false)
		takes(t, "none", b, 0, false)
		lists(t, "Drain", b.Drain(math.MaxInt), nil)
		lists(t, "Drain", b.Drain(-1), nil)
		equal(t, "Len", b.Len(), 0)
		firsts(t, "none", -1, 0, false, b, b)
		firsts(t, "behind it", 1, 5, true, b, made(t, 1, 5))
	}
}

// TestP112Drawn: boxes against plain lists.
func TestP112Drawn(t *testing.T) {
	d := draws(112)
	for range 300 {
		room := d.below(9)
		boxes := []*Box[int]{made[int](t, room), made[int](t, room), made[int](t, room)}
		want := make([][]int, 3)
		for step := range 200 {
			k := d.below(3)
			b, in := boxes[k], &want[k]
			switch d.below(6) {
			case 0, 1, 2:
				fits := len(*in) < room
				equal(t, "Offer", b.Offer(step+1), fits)
				if fits {
					*in = append(*in, step+1)
				}
			case 3:
				if len(*in) == 0 {
					takes(t, "drawn, empty", b, 0, false)
					continue
				}
				takes(t, "drawn", b, (*in)[0], true)
				*in = (*in)[1:]
			case 4:
				most := d.below(6) - 1
				n := min(max(most, 0), len(*in))
				lists(t, "Drain", b.Drain(most), (*in)[:n])
				*in = (*in)[n:]
			case 5:
				from := slices.IndexFunc(want, func(in []int) bool { return len(in) > 0 })
				if from < 0 {
					firsts(t, "drawn, empty", -1, 0, false, boxes...)
					continue
				}
				firsts(t, "drawn", from, want[from][0], true, boxes...)
				want[from] = want[from][1:]
			}
			for k := range boxes {
				equal(t, "Len", boxes[k].Len(), len(want[k]))
			}
			if t.Failed() {
				t.FailNow()
			}
		}
	}
}

// TestP113Box: what is answered is new memory, and values are kept as they are; boxes have nothing in common.
func TestP113Box(t *testing.T) {
	b := made(t, 4, 1, 2, 3)
	got := b.Drain(2)
	got[0] = 9
	_ = append(got, 9)
	holds(t, "the answer changed", b, 3)
	lists(t, "one answer and another one", b.Drain(1), []int{3})
	lists(t, "the first one", got, []int{9, 2})

	type great [70000]byte
	v := great{69999: 1}
	g := made(t, 10000, v)
	v[0] = 1
	takes(t, "a great one", g, great{69999: 1}, true)

	x := 1
	p := made(t, 2, &x, nil)
	x = 2
	takes(t, "a pointer", p, &x, true)
	takes(t, "none", p, nil, true)

	data := []byte("ab")
	s := made(t, 1, data)
	data[0] = 'c'
	in, ok := s.Take()
	equal(t, "Take", ok, true)
	equal(t, "a list, as it is", string(in), "cb")

	e := made(t, 2, struct{}{}, struct{}{})
	equal(t, "without bytes: Offer", e.Offer(struct{}{}), false)
	equal(t, "without bytes: Len", len(e.Drain(5)), 2)

	one, other := made(t, 2, 1), made(t, 2, 2)
	takes(t, "one box", one, 1, true)
	takes(t, "one box again", one, 0, false)
	holds(t, "the other box", other, 2)
}
