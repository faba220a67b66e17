package segm

import (
	"bytes"
	"math"
	"slices"
	"testing"

	"mizzen/api"
)

const (
	top    = 1 << 30
	topMTU = 1 << 20
)

func equal[T comparable](t *testing.T, what string, got, want T) {
	t.Helper()
	if got != want {
		t.Errorf("%s: got %v, want %v", what, got, want)
	}
}

// lists holds two lists, of which nil is as good as an empty one.
func lists(t *testing.T, what string, got, want []api.Range) {
	t.Helper()
	if !slices.Equal(got, want) {
		t.Errorf("%s: got %v, want %v", what, got, want)
	}
}

// at is ranges, from their ends in pairs.
func at(ends ...int) []api.Range {
	var list []api.Range
	for i := 0; i < len(ends); i += 2 {
		list = append(list, api.Range{From: ends[i], To: ends[i+1]})
	}
	return list
}

// from is a range.
func from(from, to int) api.Range { return api.Range{From: from, To: to} }

// is holds that a piece is there, and its bytes.
func is(t *testing.T, total, mtu, k int, want api.Range) {
	t.Helper()
	r, e := Piece(total, mtu, k)
	equal(t, "its error", e, api.OK)
	equal(t, "its bytes", r, want)
}

// none holds that a piece is not there.
func none(t *testing.T, total, mtu, k int) {
	t.Helper()
	r, e := Piece(total, mtu, k)
	equal(t, "error of none", e, api.ErrArg)
	equal(t, "bytes of none", r, api.Range{})
}

// slow is the pieces of a message, of which each byte is put into the last one that has room.
func slow(total, mtu int) []api.Range {
	pieces := at(0, 0)
	for i := range total {
		if last := pieces[len(pieces)-1]; last.To-last.From == mtu {
			pieces = append(pieces, from(i, i))
		}
		pieces[len(pieces)-1].To++
	}
	return pieces
}

// slowAt is which piece has that byte.
func slowAt(pieces []api.Range, total, off int) int {
	if total == 0 && off == 0 {
		return 0
	}
	return slices.IndexFunc(pieces, func(p api.Range) bool { return p.From <= off && off < p.To })
}

// slowCut is the pieces of which a byte is asked for.
func slowCut(pieces []api.Range, r api.Range) []api.Range {
	var list []api.Range
	for _, p := range pieces {
		has := false
		for i := p.From; i < p.To; i++ {
			has = has || r.From >= 0 && r.From <= i && i < r.To
		}
		if has {
			list = append(list, p)
		}
	}
	return list
}

// pattern is bytes of which no two near ones are alike.
func pattern(n int) []byte {
	data := make([]byte, n)
	for i := range data {
		data[i] = byte(i*7 + i>>8)
	}
	return data
}

// wrong calls each with every total and mtu that may not be together.
func wrong(each func(total, mtu int)) {
	for _, total := range []int{-1, -2, -10, math.MinInt, math.MinInt + 1, top + 1, top + topMTU, 1 << 31, 1 << 62, math.MaxInt - 1, math.MaxInt} {
		for _, mtu := range []int{1, 4, 1500, topMTU, 0, -1, topMTU + 1, math.MaxInt, math.MinInt} {
			each(total, mtu)
		}
	}
	for _, mtu := range []int{0, -1, -2, math.MinInt, math.MinInt + 1, topMTU + 1, 1 << 21, top, 1 << 62, math.MaxInt} {
		for _, total := range []int{0, 1, 4, 20000, top} {
			each(total, mtu)
		}
	}
}

func TestP61Count(t *testing.T) {
	equal(t, "the example", Count(10, 4), 3)
	equal(t, "even", Count(8, 4), 2)
	equal(t, "one more", Count(9, 4), 3)
	equal(t, "one less", Count(7, 4), 2)
	equal(t, "just one", Count(4, 4), 1)
	equal(t, "less than one", Count(3, 4), 1)
	equal(t, "one byte", Count(1, 4), 1)
	equal(t, "no byte", Count(0, 4), 1)
	equal(t, "bytes one by one", Count(7, 1), 7)
	equal(t, "no byte, one by one", Count(0, 1), 1)
	equal(t, "a long message", Count(api.MaxMsg, api.MaxMTU), 14)
}

func TestP61CountAtTheEnds(t *testing.T) {
	equal(t, "the most", Count(top, 1), top)
	equal(t, "one less", Count(top-1, 1), top-1)
	equal(t, "in the greatest", Count(top, topMTU), 1024)
	equal(t, "one less, in the greatest", Count(top-1, topMTU), 1024)
	equal(t, "one piece less", Count(top-topMTU, topMTU), 1023)
	equal(t, "one piece less, and one byte", Count(top-topMTU+1, topMTU), 1024)
	equal(t, "one of the greatest", Count(topMTU, topMTU), 1)
	equal(t, "one of the greatest, and one byte", Count(topMTU+1, topMTU), 2)
	equal(t, "no byte, in the greatest", Count(0, topMTU), 1)
	equal(t, "one less than the greatest", Count(top, topMTU-1), 1025)
	wrong(func(total, mtu int) {
		equal(t, "what may not be", Count(total, mtu), 0)
	})
}

func TestP61Piece(t *testing.T) {
	is(t, 10, 4, 0, from(0, 4))
	is(t, 10, 4, 1, from(4, 8))
	is(t, 10, 4, 2, from(8, 10))
	is(t, 8, 4, 1, from(4, 8))
	is(t, 9, 4, 2, from(8, 9))
	is(t, 3, 4, 0, from(0, 3))
	is(t, 0, 4, 0, from(0, 0))
	for _, k := range []int{3, 4, -1, -3, math.MinInt, math.MaxInt, 1 << 62} {
		none(t, 10, 4, k)
	}
	none(t, 8, 4, 2)
	for _, k := range []int{1, 2, -1, math.MinInt, math.MaxInt} {
		none(t, 0, 4, k)
	}
}

func TestP61PieceAtTheEnds(t *testing.T) {
	is(t, top, 1, top-1, from(top-1, top))
	is(t, top, topMTU, 1023, from(top-topMTU, top))
	is(t, top-1, topMTU, 1023, from(top-topMTU, top-1))
	is(t, top-topMTU+1, topMTU, 1023, from(top-topMTU, top-topMTU+1))
	is(t, topMTU, topMTU, 0, from(0, topMTU))
	is(t, 1, topMTU, 0, from(0, 1))
	is(t, 0, topMTU, 0, from(0, 0))
	none(t, top, 1, top)
	none(t, top, topMTU, 1024)
	none(t, top-topMTU, topMTU, 1023)
	wrong(func(total, mtu int) {
		for _, k := range []int{0, 1, -1, math.MaxInt, math.MinInt} {
			none(t, total, mtu, k)
		}
	})
}

func TestP61At(t *testing.T) {
	for off, want := range []int{0, 0, 0, 0, 1, 1, 1, 1, 2, 2, -1, -1, -1} {
		equal(t, "of 10", At(10, 4, off), want)
	}
	for _, off := range []int{-1, -2, -4, -5, math.MinInt, math.MinInt + 1, 1 << 62, math.MaxInt} {
		equal(t, "of no byte", At(10, 4, off), -1)
	}
	equal(t, "behind an even one", At(8, 4, 8), -1)
	equal(t, "of no bytes", At(0, 4, 0), 0)
	for _, off := range []int{1, 4, -1, math.MinInt, math.MaxInt} {
		equal(t, "of no bytes, beside it", At(0, 4, off), -1)
	}
}

func TestP61AtTheEnds(t *testing.T) {
	equal(t, "the last of the most", At(top, 1, top-1), top-1)
	equal(t, "behind the most", At(top, 1, top), -1)
	equal(t, "the last of the greatest", At(top, topMTU, top-1), 1023)
	equal(t, "the first of the last", At(top, topMTU, top-topMTU), 1023)
	equal(t, "ahead of it", At(top, topMTU, top-topMTU-1), 1022)
	equal(t, "behind the greatest", At(top, topMTU, top), -1)
	equal(t, "of no bytes", At(0, topMTU, 0), 0)
	wrong(func(total, mtu int) {
		for _, off := range []int{0, 1, -1, 7, top, math.MaxInt, math.MinInt} {
			equal(t, "what may not be", At(total, mtu, off), -1)
		}
	})
}

func TestP62Cut(t *testing.T) {
	all := at(0, 4, 4, 8, 8, 10)
	for _, c := range []struct {
		from, to int
		want     []api.Range
	}{
		{0, 10, all}, {3, 9, all}, {0, 9, all}, {3, 10, all},
		{3, 5, at(0, 4, 4, 8)}, {0, 5, at(0, 4, 4, 8)}, {7, 9, at(4, 8, 8, 10)},
		{4, 8, at(4, 8)}, {5, 7, at(4, 8)}, {4, 5, at(4, 8)}, {7, 8, at(4, 8)},
		{0, 1, at(0, 4)}, {0, 4, at(0, 4)}, {3, 4, at(0, 4)}, {8, 10, at(8, 10)}, {9, 10, at(8, 10)},
		{9, 11, at(8, 10)}, {9, 99, at(8, 10)}, {8, math.MaxInt, at(8, 10)}, {0, math.MaxInt, all}, {7, 13, at(4, 8, 8, 10)},
	} {
		lists(t, "of 10", Cut(from(c.from, c.to), 10, 4), c.want)
	}
}

func TestP62CutNone(t *testing.T) {
	for _, r := range []api.Range{
		{From: 0, To: 0}, {From: 5, To: 5}, {From: 4, To: 4}, {From: 10, To: 10},
		{From: 6, To: 5}, {From: 9, To: 0}, {From: 5, To: -1}, {From: 0, To: -1}, {From: math.MaxInt, To: math.MinInt}, {From: 0, To: math.MinInt},
		{From: -1, To: 3}, {From: -1, To: 99}, {From: -1, To: -1}, {From: -5, To: -2}, {From: math.MinInt, To: math.MaxInt}, {From: math.MinInt, To: 0},
		{From: 10, To: 12}, {From: 10, To: 11}, {From: 11, To: 12}, {From: 1 << 40, To: 1 << 41}, {From: 10, To: math.MaxInt}, {From: math.MaxInt, To: math.MaxInt},
	} {
		lists(t, "none of 10", Cut(r, 10, 4), nil)
	}
	for _, r := range []api.Range{{From: 0, To: 0}, {From: 0, To: 1}, {From: 0, To: 5}, {From: 0, To: math.MaxInt}, {From: -1, To: 1}} {
		lists(t, "the piece of no bytes has none", Cut(r, 0, 4), nil)
	}
	wrong(func(total, mtu int) {
		for _, r := range []api.Range{{From: 0, To: 5}, {From: 0, To: 0}, {From: 0, To: math.MaxInt}, {From: -3, To: 3}, {From: math.MinInt, To: math.MaxInt}} {
			lists(t, "what may not be", Cut(r, total, mtu), nil)
		}
	})
}

func TestP62CutAtTheEnds(t *testing.T) {
	lists(t, "the last byte of the most", Cut(from(top-1, top), top, 1), at(top-1, top))
	lists(t, "the last two of the most", Cut(from(top-2, math.MaxInt), top, 1), at(top-2, top-1, top-1, top))
	lists(t, "the last byte of the greatest", Cut(from(top-1, top), top, topMTU), at(top-topMTU, top))
	lists(t, "of what is left", Cut(from(top-2, top), top-1, topMTU), at(top-topMTU, top-1))
	lists(t, "over the last seam", Cut(from(top-topMTU-1, top-topMTU+1), top, topMTU), at(top-2*topMTU, top-topMTU, top-topMTU, top))
	lists(t, "behind the most", Cut(from(top, top+1), top, 1), nil)
	equal(t, "all of the greatest", len(Cut(from(0, top), top, topMTU)), 1024)
	equal(t, "many", len(Cut(from(0, 1<<20), top, 1)), 1<<20)
}

func TestP62Bytes(t *testing.T) {
	data := []byte("abcdef")
	for _, c := range []struct {
		from, to int
		want     string
	}{
		{0, 6, "abcdef"}, {1, 3, "bc"}, {0, 1, "a"}, {5, 6, "f"}, {4, 6, "ef"},
		{-4, 2, "ab"}, {-1, 1, "a"}, {math.MinInt, 3, "abc"}, {4, 7, "ef"}, {4, 99, "ef"}, {5, math.MaxInt, "f"},
		{-1, 7, "abcdef"}, {math.MinInt, math.MaxInt, "abcdef"},
		{0, 0, ""}, {3, 3, ""}, {6, 6, ""}, {3, 2, ""}, {6, 0, ""}, {99, -99, ""}, {math.MaxInt, math.MinInt, ""},
		{6, 7, ""}, {9, 12, ""}, {math.MaxInt, math.MaxInt, ""}, {-5, -1, ""}, {-1, 0, ""}, {math.MinInt, math.MinInt, ""},
	} {
		equal(t, "of six", string(Bytes(data, from(c.from, c.to))), c.want)
	}
	equal(t, "of nil", len(Bytes(nil, from(0, 5))), 0)
	equal(t, "of none", len(Bytes([]byte{}, from(0, 5))), 0)
	equal(t, "of nil, from below 0", len(Bytes(nil, from(-5, 5))), 0)
}

// TestP62BytesSpare: what lies in the spare room behind the data is not there.
func TestP62BytesSpare(t *testing.T) {
	room := []byte("abcdef")
	equal(t, "up to its end", string(Bytes(room[:3], from(1, 6))), "bc")
	equal(t, "behind its end", len(Bytes(room[:3], from(3, 6))), 0)
}

// TestP61Slow holds all calls against pieces that are filled byte by byte.
func TestP61Slow(t *testing.T) {
	for total := range 24 {
		for mtu := 1; mtu < 28; mtu++ {
			pieces := slow(total, mtu)
			equal(t, "so many", Count(total, mtu), len(pieces))
			for k, want := range pieces {
				is(t, total, mtu, k, want)
			}
			none(t, total, mtu, len(pieces))
			none(t, total, mtu, -1)
			for off := -2; off < total+3; off++ {
				equal(t, "which one", At(total, mtu, off), slowAt(pieces, total, off))
				for to := -2; to < total+3; to++ {
					lists(t, "those", Cut(from(off, to), total, mtu), slowCut(pieces, from(off, to)))
				}
			}
			if t.Failed() {
				t.Fatalf("%d bytes by %d", total, mtu)
			}
		}
	}
}

// TestP63All: all pieces, one behind the other, are the message; each byte stands in the piece that At tells.
func TestP63All(t *testing.T) {
	for _, total := range []int{0, 1, 2, 19, 20, 21, 1499, 1500, 1501, 3000, 19999, api.MaxMsg, 100000} {
		data := pattern(total)
		for _, mtu := range []int{1, 2, 3, 7, 20, 100, 1499, 1500, 20000, 65536, topMTU} {
			var all []byte
			end := 0
			for k := range Count(total, mtu) {
				r, e := Piece(total, mtu, k)
				equal(t, "its error", e, api.OK)
				equal(t, "right behind the last one", r.From, end)
				equal(t, "whose first byte", At(total, mtu, r.From), k)
				all, end = append(all, Bytes(data, r)...), r.To
			}
			equal(t, "its end", end, total)
			if !bytes.Equal(all, data) {
				t.Fatalf("%d bytes by %d: not the message", total, mtu)
			}
		}
	}
}

// TestP63CutAll: Cut of the whole message is its pieces.
func TestP63CutAll(t *testing.T) {
	for _, total := range []int{1, 20, 1501, api.MaxMsg} {
		for _, mtu := range []int{1, 7, 20, 1500, topMTU} {
			pieces := Cut(from(0, total), total, mtu)
			equal(t, "so many", len(pieces), Count(total, mtu))
			for k, r := range pieces {
				is(t, total, mtu, k, r)
			}
		}
	}
}

func TestP63NewMemory(t *testing.T) {
	data := []byte("abcdefgh")[:6]
	whole, some := Bytes(data, from(0, 6)), Bytes(data, from(1, 3))
	again := Bytes(data, from(1, 3))
	clear(whole[:cap(whole)])
	clear(some[:cap(some)])
	equal(t, "what was handed in, with its spare room", string(data[:8]), "abcdefgh")
	equal(t, "another answer", string(again), "bc")
	data[1] = 'z'
	equal(t, "an answer, when what was handed in is changed", string(again), "bc")

	pieces := Cut(from(0, 10), 10, 4)
	more := Cut(from(0, 10), 10, 4)
	clear(pieces[:cap(pieces)])
	lists(t, "another list", more, at(0, 4, 4, 8, 8, 10))
	lists(t, "a later list", Cut(from(0, 10), 10, 4), at(0, 4, 4, 8, 8, 10))
}

// TestP63NoneSharesNothing: an answer of no bytes has no room in what was handed in, either.
func TestP63NoneSharesNothing(t *testing.T) {
	data := []byte("abcdef")
	for i := range len(data) + 1 {
		none := append(Bytes(data, from(i, i)), "zzz"...)
		equal(t, "what is put behind none", string(none), "zzz")
	}
	equal(t, "what was handed in", string(data), "abcdef")
}
