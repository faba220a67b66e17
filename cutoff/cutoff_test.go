package cutoff

import (
	"math"
	"math/big"
	"slices"
	"strconv"
	"testing"

	"mizzen/api"
)

// top is the greatest size that is kept.
const top = 1 << 30

func equal[T comparable](t *testing.T, what string, got, want T) {
	t.Helper()
	if got != want {
		t.Errorf("%s: got %v, want %v", what, got, want)
	}
}

// made is a meter to which these were added, in this order.
func made(t *testing.T, levels, most int, sizes ...int) *Meter {
	t.Helper()
	m, e := New(levels, most)
	if m == nil || e != api.OK {
		t.Fatalf("New(%d, %d): got %v, %v", levels, most, m, e)
	}
	for _, size := range sizes {
		m.Add(size)
	}
	return m
}

// cuts holds where the levels are cut.
func cuts(t *testing.T, what string, m *Meter, window int, want ...int) {
	t.Helper()
	if got := m.Cuts(window); !slices.Equal(got, want) {
		t.Errorf("%s: Cuts(%d): got %v, want %v", what, window, got, want)
	}
}

// prio holds a size's prio.
func prio(t *testing.T, what string, m *Meter, size, window, want int) {
	t.Helper()
	equal(t, what+": Prio("+strconv.Itoa(size)+", "+strconv.Itoa(window)+")", m.Prio(size, window), want)
}

// keeps holds which sizes are kept, told in rising order.
func keeps(t *testing.T, what string, m *Meter, rising ...int) {
	t.Helper()
	equal(t, what+": Len", m.Len(), len(rising))
	kept := slices.Clone(m.sizes)
	slices.Sort(kept)
	if !slices.Equal(kept, rising) {
		t.Errorf("%s: kept: got %v, want %v", what, kept, rising)
	}
}

// draws is a rule for numbers.
type draws uint64

func (d *draws) below(n int) int {
	*d = *d*6364136223846793005 + 1442695040888963407
	return int(uint64(*d)>>33) % n
}

// size is a number of any length and sign, many of them small and alike.
func (d *draws) size() int {
	switch d.below(12) {
	case 0:
		return -d.below(1 << 30)
	case 1:
		return []int{math.MinInt, math.MaxInt, top - 1, top, top + 1, -1, 0, 1}[d.below(8)]
	case 2, 3, 4, 5:
		return d.below(6)
	}
	return d.below(1 << (1 + d.below(31)))
}

// slow is a meter that goes the way that the chapter's sentences go, with sums that can't run over.
type slow struct {
	levels, most int
	sizes        []int
}

func clamped(n int) int { return min(max(n, 0), top) }

func (s *slow) add(size int) {
	s.sizes = append(s.sizes, clamped(size))
	s.sizes = s.sizes[max(0, len(s.sizes)-s.most):]
}

// unasked is the unasked bytes of all of l.
func unasked(l []int, window int) *big.Int {
	sum := new(big.Int)
	for _, size := range l {
		sum.Add(sum, big.NewInt(int64(min(size, window))))
	}
	return sum
}

func (s *slow) cut(i, window int) int {
	rising := slices.Clone(s.sizes)
	slices.Sort(rising)
	least := new(big.Int).Mul(big.NewInt(int64(i)), unasked(rising, window))
	least.Quo(least, big.NewInt(int64(s.levels)))
	for k, size := range rising {
		if unasked(rising[:k+1], window).Cmp(least) >= 0 {
			return size
		}
	}
	return 0
}

func (s *slow) cuts(window int) []int {
	var l []int
	for i := 1; i < s.levels; i++ {
		l = append(l, s.cut(i, clamped(window)))
	}
	return l
}

func (s *slow) prio(size, window int) int {
	p := 7
	for _, cut := range s.cuts(window) {
		if size > cut {
			p--
		}
	}
	return p
}

func TestP161New(t *testing.T) {
	for _, a := range [][2]int{{0, 1}, {-1, 1}, {9, 1}, {math.MinInt, 1}, {math.MaxInt, 1}, {1, 0}, {1, -1}, {1, 1001}, {1, math.MinInt}, {1, math.MaxInt}, {0, 0}, {9, 1001}, {8, 1001}, {9, 1000}} {
		m, e := New(a[0], a[1])
		equal(t, "error", e, api.ErrArg)
		equal(t, "beside an error", m, nil)
	}
	for levels := 1; levels <= 8; levels++ {
		for _, most := range []int{1, 2, 999, 1000} {
			m := made(t, levels, most)
			equal(t, "Len of a new one", m.Len(), 0)
			equal(t, "how many cuts", len(m.Cuts(5)), levels-1)
		}
	}
}

func TestP161Add(t *testing.T) {
	m := made(t, 2, 3)
	keeps(t, "none", m)
	m.Add(9)
	keeps(t, "one", m, 9)
	m.Add(4)
	m.Add(9)
	keeps(t, "most", m, 4, 9, 9)
	m.Add(5)
	keeps(t, "the first one went", m, 4, 5, 9)
	m.Add(1)
	keeps(t, "the second one went", m, 1, 5, 9)
	m.Add(7)
	keeps(t, "the third one went", m, 1, 5, 7)
	m.Add(7)
	m.Add(8)
	keeps(t, "once round, and more", m, 7, 7, 8)

	one := made(t, 1, 1)
	for size := range 5 {
		one.Add(size)
		keeps(t, "room for one", one, size)
	}
}

func TestP161Most(t *testing.T) {
	m := made(t, 8, 1000)
	for n := range 2500 {
		equal(t, "Len", m.Len(), min(n, 1000))
		m.Add(n)
	}
	equal(t, "Len", m.Len(), 1000)
	equal(t, "the least that is kept", slices.Min(m.sizes), 1500)
	cuts(t, "a byte of each", m, 1, 1624, 1749, 1874, 1999, 2124, 2249, 2374)
}

func TestP161Clamped(t *testing.T) {
	m := made(t, 2, 9, -1, math.MinInt, 0, 1, top-1, top, top+1, 1<<50, math.MaxInt)
	keeps(t, "clamped", m, 0, 0, 0, 1, top-1, top, top, top, top)
	cuts(t, "below 0", made(t, 2, 2, -5), 10, 0)
	cuts(t, "beyond the greatest", made(t, 2, 2, math.MaxInt), math.MaxInt, top)
}

func TestP162Example(t *testing.T) {
	m := made(t, 2, 9, 1, 9)
	cuts(t, "example", m, 10, 9)
	prio(t, "example", m, 9, 10, 7)
	prio(t, "example", m, 10, 10, 6)
}

func TestP162Cuts(t *testing.T) {
	m := made(t, 3, 4, 100, 9, 1, 5, 30)
	cuts(t, "all within the window", m, 100, 9, 30)
	cuts(t, "one beyond the window", m, 10, 9, 30)
	cuts(t, "a byte of each", m, 1, 1, 5)
	cuts(t, "window of a size", m, 5, 5, 9)
	cuts(t, "window 0: nothing is unasked", m, 0, 1, 1)
	cuts(t, "window below 0", m, -5, 1, 1)
	cuts(t, "the least window", m, math.MinInt, 1, 1)
	cuts(t, "the greatest window", m, math.MaxInt, 9, 30)

	cuts(t, "exactly a share", made(t, 2, 4, 3, 1, 2, 6), 99, 3)
	cuts(t, "a share that is cut down", made(t, 2, 4, 1, 2, 4), 99, 2)
	cuts(t, "one size, many cuts", made(t, 8, 4, 5), 99, 5, 5, 5, 5, 5, 5, 5)
	cuts(t, "the greatest has nearly all", made(t, 4, 4, 1, 1, 1, 1000), 1000, 1000, 1000, 1000)
	cuts(t, "and within a window", made(t, 4, 4, 1, 1, 1, 1000), 1, 1, 1, 1)
	cuts(t, "noughts", made(t, 3, 4, 0, 0, 0), 9, 0, 0)
	cuts(t, "noughts and one", made(t, 3, 4, 0, 0, 3), 9, 3, 3)
	cuts(t, "noughts and less than a share", made(t, 3, 4, 0, 0, 1), 9, 0, 0)
	cuts(t, "sizes alike", made(t, 4, 8, 7, 7, 7, 7), 99, 7, 7, 7)
	cuts(t, "as many levels as sizes", made(t, 8, 8, 8, 7, 6, 5, 4, 3, 2, 1), 1, 1, 2, 3, 4, 5, 6, 7)
	cuts(t, "one level", made(t, 1, 8, 1, 2, 3), 9)
}

func TestP162NoSizes(t *testing.T) {
	for levels := 1; levels <= 8; levels++ {
		m := made(t, levels, 4)
		for _, window := range []int{math.MinInt, -1, 0, 1, 10, top, math.MaxInt} {
			cuts(t, "none is kept", m, window, make([]int, levels-1)...)
			prio(t, "none is kept", m, 0, window, 7)
			prio(t, "none is kept", m, -1, window, 7)
			prio(t, "none is kept", m, 1, window, 8-levels)
		}
	}
}

// TestP162Window: one byte of window, and the cut is another one; none is more than the greatest.
func TestP162Window(t *testing.T) {
	m := made(t, 2, 2, top-2, math.MaxInt)
	cuts(t, "a byte less than the greatest", m, top-1, top-2)
	for _, window := range []int{top, top + 1, 1 << 50, math.MaxInt} {
		cuts(t, "the greatest", m, window, top)
	}
	small := made(t, 2, 2, 5, 7)
	cuts(t, "a byte less", small, 6, 5)
	for _, window := range []int{7, 8, math.MaxInt} {
		cuts(t, "the greater size", small, window, 7)
	}
}

// TestP162Greatest: the most bytes that there may be, in the most levels.
func TestP162Greatest(t *testing.T) {
	m := made(t, 8, 1000)
	for range 1000 {
		m.Add(math.MaxInt)
	}
	for _, window := range []int{1, top - 1, top, top + 1, math.MaxInt} {
		cuts(t, "all of the greatest", m, window, top, top, top, top, top, top, top)
	}
	for range 125 {
		m.Add(top - 2)
	}
	cuts(t, "an eighth of nearly the greatest", m, top-2, top-2, top, top, top, top, top, top)
	cuts(t, "a little less than an eighth of all bytes", m, top, top, top, top, top, top, top, top)
	for range 999 {
		m.Add(0)
	}
	cuts(t, "all but one noughts", m, top, top-2, top-2, top-2, top-2, top-2, top-2, top-2)
}

func TestP162Prio(t *testing.T) {
	m := made(t, 3, 4, 9, 1, 5, 30)
	for size, want := range map[int]int{math.MinInt: 7, -5: 7, 0: 7, 1: 7, 8: 7, 9: 7, 10: 6, 15: 6, 29: 6, 30: 6, 31: 5, top: 5, 1 << 40: 5, math.MaxInt: 5} {
		prio(t, "two cuts", m, size, 100, want)
	}
	prio(t, "two cuts that are alike", m, 1, 0, 7)
	prio(t, "two cuts that are alike", m, 2, 0, 5)
	prio(t, "window below 0", m, 2, -1, 5)
	prio(t, "one level", made(t, 1, 4, 9), math.MaxInt, 5, 7)
	eight := made(t, 8, 8, 1, 2, 3, 4, 5, 6, 7, 8)
	for size := range 12 {
		prio(t, "seven cuts", eight, size, 1, min(7, max(0, 8-size)))
	}
	// What is asked for is not clamped: it is above the greatest cut.
	great := made(t, 2, 4, top)
	prio(t, "at the greatest", great, top, top, 7)
	prio(t, "above the greatest", great, top+1, top, 6)
}

func TestP162NoMeter(t *testing.T) {
	for _, m := range []*Meter{nil, {}} {
		m.Add(1)
		equal(t, "Len", m.Len(), 0)
		cuts(t, "no meter", m, 10)
		prio(t, "no meter", m, 0, 10, 0)
		prio(t, "no meter", m, math.MaxInt, math.MaxInt, 0)
		prio(t, "no meter", m, math.MinInt, math.MinInt, 0)
	}
}

// TestP162Steps holds many meters against slow ones.
func TestP162Steps(t *testing.T) {
	d := draws(16)
	for range 300 {
		levels, most := 1+d.below(8), 1+d.below(40)
		m, s := made(t, levels, most), &slow{levels: levels, most: most}
		for range d.below(100) {
			size, window := d.size(), d.size()
			m.Add(size)
			s.add(size)
			equal(t, "Len", m.Len(), len(s.sizes))
			cuts(t, "held against a slow one", m, window, s.cuts(window)...)
			asked := d.size()
			prio(t, "held against a slow one", m, asked, window, s.prio(asked, window))
		}
	}
}

func TestP163Rise(t *testing.T) {
	d := draws(163)
	for range 300 {
		m := made(t, 1+d.below(8), 1+d.below(60))
		for range 1 + d.below(80) {
			m.Add(d.size())
		}
		window := d.size()
		l := m.Cuts(window)
		if !slices.IsSorted(l) {
			t.Errorf("cuts do not rise: %v", l)
		}
		asked := []int{math.MinInt, -1, 0, 1, top, math.MaxInt}
		for range 30 {
			asked = append(asked, d.size())
		}
		for _, cut := range l {
			asked = append(asked, cut, cut+1)
		}
		slices.Sort(asked)
		before := 7
		for _, size := range asked {
			p := m.Prio(size, window)
			if p > before || p < 8-m.levels {
				t.Errorf("Prio(%d, %d): %d behind %d, with %d levels", size, window, p, before, m.levels)
			}
			before = p
		}
	}
}

// TestNewMemory: what is done to an answer is not done to the meter, nor to another answer; and asking changes nothing.
func TestNewMemory(t *testing.T) {
	m := made(t, 4, 3, 30, 10, 20)
	one, other := m.Cuts(99), m.Cuts(99)
	want := slices.Clone(one)
	for k := range one {
		one[k] = -1
	}
	_ = append(one, -1)
	if !slices.Equal(other, want) {
		t.Errorf("another answer: got %v, want %v", other, want)
	}
	cuts(t, "an answer was written", m, 99, want...)
	m.Prio(15, 99)
	m.Add(5)
	keeps(t, "the first one that came went", m, 5, 10, 20)
}

// TestApart: meters have nothing in common.
func TestApart(t *testing.T) {
	m, o := made(t, 2, 2), made(t, 2, 2)
	m.Add(5)
	keeps(t, "the other one", o)
	o.Add(8)
	o.Add(9)
	o.Add(10)
	keeps(t, "one", m, 5)
	keeps(t, "the other one", o, 9, 10)
}

// TestKept: no more is kept than the last ones, however many came.
func TestKept(t *testing.T) {
	m := made(t, 8, 100)
	for n := range 100000 {
		m.Add(n)
	}
	if cap(m.sizes) > 2*m.most {
		t.Errorf("%d places for %d sizes", cap(m.sizes), m.most)
	}
}
