package ivals

import (
	"math"
	"slices"
	"testing"

	"mizzen/api"
)

const top = 1 << 30

func equal[T comparable](t *testing.T, what string, got, want T) {
	t.Helper()
	if got != want {
		t.Errorf("%s: got %v, want %v", what, got, want)
	}
}

// lists holds two lists, of which nil is as good as an empty one.
func lists(t *testing.T, what string, got, want []api.Range) {
	t.Helper()
	if !slices.Equal(got, want) {
		t.Errorf("%s: got %v, want %v", what, got, want)
	}
}

// at is ranges, from their ends in pairs.
func at(ends ...int) []api.Range {
	var list []api.Range
	for i := 0; i < len(ends); i += 2 {
		list = append(list, api.Range{From: ends[i], To: ends[i+1]})
	}
	return list
}

// made is a set with the ranges from the ends in pairs in it.
func made(t *testing.T, total int, ends ...int) *Set {
	t.Helper()
	s, e := New(total)
	if s == nil || e != api.OK {
		t.Fatalf("New(%d): got %v, %v", total, s, e)
	}
	for _, r := range at(ends...) {
		if _, e := s.Add(r.From, r.To); e != api.OK {
			t.Fatalf("Add(%d, %d) to %d: got %v", r.From, r.To, total, e)
		}
	}
	return s
}

// adds holds what Fresh tells ahead of an Add, and what Add tells.
func adds(t *testing.T, s *Set, from, to, want int) {
	t.Helper()
	equal(t, "Fresh ahead of it", s.Fresh(from, to), want)
	fresh, e := s.Add(from, to)
	equal(t, "fresh", fresh, want)
	equal(t, "error", e, api.OK)
	equal(t, "Fresh behind it", s.Fresh(from, to), 0)
	equal(t, "Has behind it", s.Has(from, to), true)
}

// refuses holds that these bytes are none of its own, whatever is asked of them.
func refuses(t *testing.T, s *Set, from, to int) {
	t.Helper()
	fresh, e := s.Add(from, to)
	equal(t, "beside an error", fresh, 0)
	equal(t, "error", e, api.ErrArg)
	equal(t, "Fresh of an error", s.Fresh(from, to), 0)
	equal(t, "Has of an error", s.Has(from, to), false)
}

// draws is a rule for numbers.
type draws uint64

func (d *draws) below(n int) int {
	*d = *d*6364136223846793005 + 1442695040888963407
	return int(uint64(*d)>>33) % n
}

// slow is a set that has each byte of its own.
type slow []bool

// runs is the longest runs of bytes of which one thing holds, ahead of end.
func (s slow) runs(in bool, end int) []api.Range {
	var list []api.Range
	for i := range end {
		if s[i] != in {
			continue
		}
		if i > 0 && s[i-1] == in {
			list[len(list)-1].To = i + 1
		} else {
			list = append(list, api.Range{From: i, To: i + 1})
		}
	}
	return list
}

func (s slow) sum() int {
	n := 0
	for _, in := range s {
		if in {
			n++
		}
	}
	return n
}

func (s slow) front() int {
	return slices.Index(append(slices.Clone(s), false), false)
}

// fresh is how many of these bytes are not in it, or -1 of an error.
func (s slow) fresh(from, to int) int {
	if from < 0 || to < from || to > len(s) {
		return -1
	}
	return to - from - s[from:to].sum()
}

func (s slow) add(from, to int) {
	for i := from; i < to; i++ {
		s[i] = true
	}
}

// same holds all that can be told of both.
func same(t *testing.T, x *Set, s slow) {
	t.Helper()
	lists(t, "Ranges", x.Ranges(), s.runs(true, len(s)))
	lists(t, "Gaps", x.Gaps(len(s), len(s)+1), s.runs(false, len(s)))
	equal(t, "Sum", x.Sum(), s.sum())
	equal(t, "Front", x.Front(), s.front())
	equal(t, "Full", x.Full(), s.sum() == len(s))
}

// sameAsked holds what is told of some of the bytes, wrong ones too.
func sameAsked(t *testing.T, x *Set, s slow, from, to int) {
	t.Helper()
	fresh := s.fresh(from, to)
	equal(t, "Fresh", x.Fresh(from, to), max(fresh, 0))
	equal(t, "Has", x.Has(from, to), fresh == 0)
}

// sameGaps holds the first gaps ahead of a byte.
func sameGaps(t *testing.T, x *Set, s slow, upto, most int) {
	t.Helper()
	gaps := s.runs(false, max(0, min(upto, len(s))))
	lists(t, "the first gaps", x.Gaps(upto, most), gaps[:max(0, min(most, len(gaps)))])
}

// sameAdd adds to both.
func sameAdd(t *testing.T, x *Set, s slow, from, to int) {
	t.Helper()
	want, wrong := s.fresh(from, to), api.OK
	if want < 0 {
		want, wrong = 0, api.ErrArg
	}
	fresh, e := x.Add(from, to)
	equal(t, "Add", fresh, want)
	equal(t, "error of Add", e, wrong)
	if wrong == api.OK {
		s.add(from, to)
	}
}

func TestP51New(t *testing.T) {
	for _, total := range []int{-1, -2, math.MinInt, top + 1, 1 << 31, 1 << 62, math.MaxInt} {
		s, e := New(total)
		equal(t, "error", e, api.ErrArg)
		equal(t, "beside an error", s, nil)
	}
	for _, total := range []int{0, 1, 2, 20000, top - 1, top} {
		s := made(t, total)
		lists(t, "empty", s.Ranges(), nil)
		equal(t, "its sum", s.Sum(), 0)
		equal(t, "its front", s.Front(), 0)
		equal(t, "full", s.Full(), total == 0)
		equal(t, "all would be fresh", s.Fresh(0, total), total)
		equal(t, "has all", s.Has(0, total), total == 0)
		refuses(t, s, 0, total+1)
		adds(t, s, 0, total, total)
		equal(t, "full now", s.Full(), true)
	}
}

func TestP51Add(t *testing.T) {
	s := made(t, 10)
	adds(t, s, 2, 5, 3)
	adds(t, s, 2, 5, 0)
	adds(t, s, 3, 4, 0)
	lists(t, "the example", s.Gaps(10, 9), at(0, 2, 5, 10))
	adds(t, s, 4, 7, 2)
	lists(t, "over its end", s.Ranges(), at(2, 7))
	adds(t, s, 1, 3, 1)
	lists(t, "over its beginning", s.Ranges(), at(1, 7))
	adds(t, s, 9, 10, 1)
	lists(t, "away from it", s.Ranges(), at(1, 7, 9, 10))
	adds(t, s, 0, 10, 3)
	lists(t, "over all", s.Ranges(), at(0, 10))
}

func TestP51AddBeside(t *testing.T) {
	s := made(t, 30, 10, 12)
	adds(t, s, 12, 15, 3)
	lists(t, "right behind it", s.Ranges(), at(10, 15))
	adds(t, s, 8, 10, 2)
	lists(t, "right ahead of it", s.Ranges(), at(8, 15))
	adds(t, s, 16, 18, 2)
	lists(t, "one behind it", s.Ranges(), at(8, 15, 16, 18))
	adds(t, s, 6, 7, 1)
	lists(t, "one ahead of it", s.Ranges(), at(6, 7, 8, 15, 16, 18))
	adds(t, s, 15, 16, 1)
	lists(t, "just between two", s.Ranges(), at(6, 7, 8, 18))
}

func TestP51AddOverMany(t *testing.T) {
	ends := []int{1, 2, 4, 6, 8, 9, 15, 16, 18, 19}
	s := made(t, 20, ends...)
	adds(t, s, 5, 15, 8)
	lists(t, "from within one to beside one", s.Ranges(), at(1, 2, 4, 16, 18, 19))
	s = made(t, 20, ends...)
	adds(t, s, 3, 17, 10)
	lists(t, "wider than three", s.Ranges(), at(1, 2, 3, 17, 18, 19))
	s = made(t, 20, ends...)
	adds(t, s, 2, 18, 12)
	lists(t, "from beside one to beside one", s.Ranges(), at(1, 19))
	s = made(t, 20, ends...)
	adds(t, s, 0, 1, 1)
	adds(t, s, 19, 20, 1)
	lists(t, "at both ends", s.Ranges(), at(0, 2, 4, 6, 8, 9, 15, 16, 18, 20))
}

// TestP51AddNone: of no bytes none are fresh, and no run comes of them.
func TestP51AddNone(t *testing.T) {
	s := made(t, 10, 2, 5)
	for i := range 11 {
		adds(t, s, i, i, 0)
		lists(t, "as it was", s.Ranges(), at(2, 5))
		lists(t, "its gaps", s.Gaps(10, 9), at(0, 2, 5, 10))
		equal(t, "its sum", s.Sum(), 3)
	}
	s = made(t, 0)
	adds(t, s, 0, 0, 0)
	lists(t, "of no bytes at all", s.Ranges(), nil)
}

func TestP51Wrong(t *testing.T) {
	s := made(t, 10, 2, 5, 7, 9)
	for _, a := range [][2]int{
		{-1, 3}, {-1, -1}, {-1, 0}, {-2, -1}, {math.MinInt, 3}, {math.MinInt, math.MaxInt}, {math.MinInt, math.MinInt},
		{3, 2}, {10, 9}, {1, 0}, {0, -1}, {5, math.MinInt}, {math.MaxInt, math.MinInt},
		{3, 11}, {11, 11}, {10, 11}, {0, 11}, {0, math.MaxInt}, {math.MaxInt, math.MaxInt}, {11, 10},
	} {
		refuses(t, s, a[0], a[1])
		lists(t, "as it was", s.Ranges(), at(2, 5, 7, 9))
		equal(t, "its sum", s.Sum(), 5)
	}
	refuses(t, made(t, 0), 0, 1)
	refuses(t, made(t, 0), 1, 1)
	refuses(t, made(t, 0), -1, 0)
}

func TestP51Has(t *testing.T) {
	s := made(t, 20, 2, 5, 7, 9, 10, 20)
	for _, a := range [][2]int{{2, 5}, {3, 4}, {2, 3}, {4, 5}, {7, 9}, {8, 9}, {10, 20}, {19, 20}, {0, 0}, {1, 1}, {5, 5}, {6, 6}, {20, 20}} {
		equal(t, "has all", s.Has(a[0], a[1]), true)
		equal(t, "none fresh", s.Fresh(a[0], a[1]), 0)
	}
	for _, a := range [][3]int{{1, 5, 1}, {2, 6, 1}, {5, 7, 2}, {5, 6, 1}, {4, 8, 2}, {2, 9, 2}, {7, 11, 1}, {9, 10, 1}, {0, 20, 5}, {0, 1, 1}, {0, 2, 2}} {
		equal(t, "has all", s.Has(a[0], a[1]), false)
		equal(t, "some fresh", s.Fresh(a[0], a[1]), a[2])
	}
}

// TestP51AskingAddsNothing: Fresh and Has, and all that tells, leave it as it is.
func TestP51AskingAddsNothing(t *testing.T) {
	s := made(t, 10, 2, 5)
	for from := -1; from < 12; from++ {
		for to := -1; to < 12; to++ {
			s.Fresh(from, to)
			s.Has(from, to)
			s.Gaps(from, to)
			lists(t, "as it was", s.Ranges(), at(2, 5))
		}
	}
	equal(t, "its sum", s.Sum(), 3)
}

func TestP52Gaps(t *testing.T) {
	s := made(t, 20, 1, 2, 4, 6, 8, 9, 15, 16)
	all := at(0, 1, 2, 4, 6, 8, 9, 15, 16, 20)
	for _, upto := range []int{20, 21, 1000, math.MaxInt} {
		lists(t, "all", s.Gaps(upto, 5), all)
		lists(t, "all, and more room", s.Gaps(upto, math.MaxInt), all)
		for most := range 5 {
			lists(t, "the first ones", s.Gaps(upto, most), all[:most])
		}
	}
	for _, most := range []int{0, -1, math.MinInt} {
		lists(t, "none below 1", s.Gaps(20, most), nil)
	}
	for _, upto := range []int{0, -1, math.MinInt} {
		lists(t, "ahead of nothing", s.Gaps(upto, 9), nil)
	}
}

func TestP52GapsUpTo(t *testing.T) {
	s := made(t, 20, 1, 2, 4, 6, 8, 9, 15, 16)
	for _, a := range []struct {
		upto int
		want []api.Range
	}{
		{1, at(0, 1)}, {2, at(0, 1)}, {3, at(0, 1, 2, 3)}, {4, at(0, 1, 2, 4)}, {5, at(0, 1, 2, 4)}, {6, at(0, 1, 2, 4)},
		{7, at(0, 1, 2, 4, 6, 7)}, {14, at(0, 1, 2, 4, 6, 8, 9, 14)}, {16, at(0, 1, 2, 4, 6, 8, 9, 15)},
		{17, at(0, 1, 2, 4, 6, 8, 9, 15, 16, 17)}, {19, at(0, 1, 2, 4, 6, 8, 9, 15, 16, 19)},
	} {
		lists(t, "ahead of it", s.Gaps(a.upto, 9), a.want)
	}
	lists(t, "in the first run", made(t, 9, 0, 5).Gaps(5, 9), nil)
	lists(t, "one behind it", made(t, 9, 0, 5).Gaps(6, 9), at(5, 6))
	lists(t, "of an empty one", made(t, 9).Gaps(5, 1), at(0, 5))
	lists(t, "of no bytes", made(t, 0).Gaps(5, 1), nil)
	lists(t, "of a full one", made(t, 9, 0, 9).Gaps(9, 1), nil)
}

func TestP52Front(t *testing.T) {
	s := made(t, 10, 1, 3)
	equal(t, "a gap at 0", s.Front(), 0)
	s.Add(5, 6)
	s.Add(0, 1)
	equal(t, "up to the gap", s.Front(), 3)
	s.Add(3, 5)
	equal(t, "up to the next one", s.Front(), 6)
	s.Add(7, 10)
	equal(t, "not over it", s.Front(), 6)
	equal(t, "not full", s.Full(), false)
	equal(t, "one gap", s.Sum(), 9)
	s.Add(6, 7)
	equal(t, "all", s.Front(), 10)
	equal(t, "full", s.Full(), true)
	equal(t, "their sum", s.Sum(), 10)
}

func TestP52Full(t *testing.T) {
	equal(t, "all but the first", made(t, 10, 1, 10).Full(), false)
	equal(t, "all but the last", made(t, 10, 0, 9).Full(), false)
	equal(t, "all but one", made(t, 10, 0, 5, 6, 10).Full(), false)
	equal(t, "all in two", made(t, 10, 5, 10, 0, 5).Full(), true)
	equal(t, "of none", made(t, 0).Full(), true)
	equal(t, "of one, without it", made(t, 1).Full(), false)
	equal(t, "of one", made(t, 1, 0, 1).Full(), true)
}

func TestP52Nil(t *testing.T) {
	var s *Set
	for _, a := range []int{0, 1, -1, top, math.MaxInt, math.MinInt} {
		for _, b := range []int{0, 1, -1, top, math.MaxInt, math.MinInt} {
			refuses(t, s, a, b)
			lists(t, "gaps", s.Gaps(a, b), nil)
		}
	}
	lists(t, "ranges", s.Ranges(), nil)
	equal(t, "sum", s.Sum(), 0)
	equal(t, "front", s.Front(), 0)
	equal(t, "full", s.Full(), false)
}

// TestP51Zero: one that New did not make has no bytes.
func TestP51Zero(t *testing.T) {
	var s Set
	adds(t, &s, 0, 0, 0)
	refuses(t, &s, 0, 1)
	lists(t, "gaps", s.Gaps(9, 9), nil)
	lists(t, "ranges", s.Ranges(), nil)
	equal(t, "full", s.Full(), true)
}

func TestP51AtTheEnd(t *testing.T) {
	s := made(t, top)
	adds(t, s, top-1, top, 1)
	adds(t, s, 0, 1, 1)
	lists(t, "its ends", s.Ranges(), at(0, 1, top-1, top))
	lists(t, "all between", s.Gaps(math.MaxInt, math.MaxInt), at(1, top-1))
	refuses(t, s, top, top+1)
	refuses(t, s, top+1, top+1)
	adds(t, s, top, top, 0)
	adds(t, s, 0, top-1, top-2)
	equal(t, "all", s.Sum(), top)
	equal(t, "front", s.Front(), top)
	equal(t, "full", s.Full(), true)
	adds(t, s, 0, top, 0)
}

// TestP51ManyRuns: every other byte, from behind and from ahead, and then all in one.
func TestP51ManyRuns(t *testing.T) {
	const total = 40000
	s := made(t, total)
	for i := 0; i < total/2; i += 2 {
		adds(t, s, i, i+1, 1)
		adds(t, s, total-i-1, total-i, 1)
	}
	equal(t, "half of them", s.Sum(), total/2)
	equal(t, "so many runs", len(s.Ranges()), total/2)
	equal(t, "fresh", s.Fresh(0, total), total/2)
	equal(t, "a gap between any two", len(s.Gaps(total, total)), total/2-1)
	adds(t, s, 1, total-1, total/2)
	lists(t, "one run", s.Ranges(), at(0, total))
	equal(t, "full", s.Full(), true)
}

func TestP53NewMemory(t *testing.T) {
	s := made(t, 20, 1, 2, 4, 6, 8, 9)
	runs, gaps := s.Ranges(), s.Gaps(20, 9)
	again, holes := s.Ranges(), s.Gaps(20, 9)
	clear(runs[:cap(runs)])
	clear(gaps[:cap(gaps)])
	lists(t, "one answer has nothing of another", again, at(1, 2, 4, 6, 8, 9))
	lists(t, "nor have gaps", holes, at(0, 1, 2, 4, 6, 8, 9, 20))
	lists(t, "nor has the set", s.Ranges(), at(1, 2, 4, 6, 8, 9))
	s.Add(0, 20)
	lists(t, "nor does it change an answer", again, at(1, 2, 4, 6, 8, 9))
	runs = append(s.Ranges(), api.Range{From: 50, To: 60})
	clear(runs)
	lists(t, "nor does an answer that grows change it", s.Ranges(), at(0, 20))
}

func TestP53HaveNothingInCommon(t *testing.T) {
	x, y := made(t, 10, 1, 3, 5, 6), made(t, 10, 1, 3, 5, 6)
	adds(t, x, 0, 10, 7)
	lists(t, "the other", y.Ranges(), at(1, 3, 5, 6))
	adds(t, y, 3, 4, 1)
	lists(t, "the one", x.Ranges(), at(0, 10))
}

// woven is ranges and gaps by their beginnings, and how many bytes lie in them, as far as each begins where one ended.
func woven(runs, gaps []api.Range) (all []api.Range, end int) {
	all = slices.Concat(runs, gaps)
	slices.SortFunc(all, func(a, b api.Range) int { return a.From - b.From })
	for _, r := range all {
		if r.From != end || r.To <= r.From {
			break
		}
		end = r.To
	}
	return all, end
}

// TestP53All: Ranges and Gaps together are all, each byte in one; no two of a kind lie side by side.
func TestP53All(t *testing.T) {
	d := draws(3)
	for range 300 {
		total := d.below(top) + 1
		s := made(t, total)
		for range 60 {
			from := d.below(total + 1)
			s.Add(from, from+(total-from)/(1+d.below(300)))
			runs, gaps := s.Ranges(), s.Gaps(total, total)
			all, end := woven(runs, gaps)
			if end != total || max(len(runs), len(gaps)) > len(all)/2+1 {
				t.Fatalf("of %d: ranges %v, gaps %v", total, runs, gaps)
			}
			sum := 0
			for _, r := range runs {
				sum += r.To - r.From
			}
			equal(t, "their sum", s.Sum(), sum)
		}
	}
}

// TestP51StepByStep goes through many sets, beside ones that have each byte of their own.
func TestP51StepByStep(t *testing.T) {
	d := draws(1)
	for round := range 3000 {
		total := d.below(40)
		x, s := made(t, total), make(slow, total)
		for step := range 40 {
			from := d.below(total+4) - 2
			to := from + d.below(6) - 1
			sameAsked(t, x, s, from, to)
			sameAdd(t, x, s, from, to)
			same(t, x, s)
			sameAsked(t, x, s, d.below(total+4)-2, d.below(total+4)-2)
			sameGaps(t, x, s, d.below(total+6)-3, d.below(8)-2)
			if t.Failed() {
				t.Fatalf("round %d, step %d: of %d, %d to %d", round, step, total, from, to)
			}
		}
	}
}
