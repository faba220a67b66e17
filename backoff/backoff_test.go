package backoff

import (
	"math"
	"math/big"
	"testing"

	"mizzen/api"
)

const top = api.MaxTime

func equal[T comparable](t *testing.T, what string, got, want T) {
	t.Helper()
	if got != want {
		t.Errorf("%s: got %v, want %v", what, got, want)
	}
}

func made(t *testing.T, base, cap, tries int) *Timer {
	t.Helper()
	x, e := New(base, cap, tries)
	if x == nil || e != api.OK {
		t.Fatalf("New(%d, %d, %d): got %v, %v", base, cap, tries, x, e)
	}
	return x
}

// started is one that runs from a time on.
func started(t *testing.T, base, cap, tries, now int) *Timer {
	t.Helper()
	x := made(t, base, cap, tries)
	x.Start(now)
	return x
}

func fires(t *testing.T, what string, x *Timer, now int) {
	t.Helper()
	ok, e := x.Fired(now)
	equal(t, what+": fired", ok, true)
	equal(t, what+": error", e, api.OK)
}

func waits(t *testing.T, what string, x *Timer, now int) {
	t.Helper()
	ok, e := x.Fired(now)
	equal(t, what+": fired", ok, false)
	equal(t, what+": error", e, api.OK)
}

func late(t *testing.T, what string, x *Timer, now int) {
	t.Helper()
	ok, e := x.Fired(now)
	equal(t, what+": beside an error", ok, false)
	equal(t, what+": error", e, api.ErrLate)
}

// runs holds when it fires, and how many tries it has.
func runs(t *testing.T, what string, x *Timer, at, tries int) {
	t.Helper()
	got, ok := x.At()
	equal(t, what+": runs", ok, true)
	equal(t, what+": at", got, at)
	equal(t, what+": tries", x.Tries(), tries)
}

// rests holds that it does not run, whatever it is asked.
func rests(t *testing.T, what string, x *Timer) {
	t.Helper()
	tries := x.Tries()
	for _, now := range []int{0, 1, -1, 1000, top, math.MaxInt, math.MinInt} {
		x.Heard(now)
		waits(t, what, x, now)
		got, ok := x.At()
		equal(t, what+": runs", ok, false)
		equal(t, what+": at", got, 0)
		equal(t, what+": tries as before", x.Tries(), tries)
	}
}

// draws is a rule for numbers that hits all lengths.
type draws uint64

func (d *draws) below(n int) int {
	*d = *d*6364136223846793005 + 1442695040888963407
	return int(uint64(*d)>>33) % n
}

// upTo is a number of any length, from 0 to 2^digits.
func (d *draws) upTo(digits int) int {
	full := d.below(1<<30)<<30 | d.below(1<<30)
	return min(full>>(60-d.below(digits+2)), 1<<digits)
}

func within(v, low, high int) int {
	return max(low, min(v, high))
}

// slowDelay is a Delay that can't run over.
func slowDelay(base, most, k int) int {
	delay := big.NewInt(int64(within(base, 1, 1<<40)))
	delay.Lsh(delay, uint(within(k, 0, 100)))
	end := big.NewInt(int64(within(most, 1, 1<<40)))
	if delay.Cmp(end) > 0 {
		delay = end
	}
	return int(delay.Int64())
}

// slow is a timer that goes the way that the chapter's sentences go.
type slow struct {
	base, most, limit int
	runs              bool
	at, tries         int
}

func (s *slow) start(now int) {
	s.runs, s.tries = true, 0
	s.wait(now)
}

func (s *slow) wait(now int) {
	s.at = min(within(now, 0, top)+slowDelay(s.base, s.most, s.tries), top)
}

func (s *slow) fired(now int) (bool, api.Errno) {
	if !s.runs || now < s.at {
		return false, api.OK
	}
	s.tries++
	if s.limit > 0 && s.tries > s.limit {
		s.runs, s.at = false, 0
		return false, api.ErrLate
	}
	s.wait(now)
	return true, api.OK
}

func (s *slow) heard(now int) {
	if s.runs {
		s.start(now)
	}
}

func (s *slow) stop() {
	s.runs, s.at, s.tries = false, 0, 0
}

func TestP41Delay(t *testing.T) {
	equal(t, "the example", Delay(2, 10, 3), 10)
	for k, want := range []int{2, 4, 8, 10, 10, 10} {
		equal(t, "2, up to 10", Delay(2, 10, k), want)
	}
	for k, want := range []int{3, 6, 12, 24, 48, 48} {
		equal(t, "3, up to 48, which it meets", Delay(3, 48, k), want)
	}
	equal(t, "one below what it would meet", Delay(3, 47, 4), 47)
	equal(t, "one above", Delay(3, 49, 4), 48)
	equal(t, "never above its base", Delay(7, 7, 5), 7)
	equal(t, "a cap below base", Delay(7, 6, 0), 6)
	equal(t, "a cap far below base", Delay(1<<40, 1, 0), 1)
}

func TestP41DelayEnds(t *testing.T) {
	for _, low := range []int{0, -1, -7, math.MinInt} {
		equal(t, "a base below 1", Delay(low, 100, 3), 8)
		equal(t, "a cap below 1", Delay(5, low, 3), 1)
		equal(t, "a k of 0 or below it", Delay(5, 100, low), 5)
		equal(t, "all", Delay(low, low, low), 1)
	}
	for _, high := range []int{1 << 40, 1<<40 + 1, 1 << 50, 1 << 62, math.MaxInt} {
		equal(t, "a base above 2^40", Delay(high, 1<<40, 0), 1<<40)
		equal(t, "doubled", Delay(high, 1<<40, 1), 1<<40)
		equal(t, "a cap above 2^40", Delay(1, high, 40), 1<<40)
		equal(t, "just below it", Delay(1, high, 39), 1<<39)
		equal(t, "far above it", Delay(3, high, 90), 1<<40)
		equal(t, "a great k", Delay(1, 1000, high), 1000)
	}
	equal(t, "one below the end", Delay(1<<40-1, 1<<40-1, 0), 1<<40-1)
	equal(t, "an odd one just below the end", Delay(1<<39-1, 1<<40, 1), 1<<40-2)
}

// TestP41DelayAtAllShifts: no k makes a base run over, or round.
func TestP41DelayAtAllShifts(t *testing.T) {
	odd := []int{-1, 0, 1, 2, 3, 5, 255, 1<<20 - 1, 1 << 20, 1<<39 - 1, 1 << 39, 1<<40 - 1, 1 << 40, 1<<40 + 1, math.MaxInt}
	for _, base := range odd {
		for _, most := range odd {
			for k := -2; k <= 140; k++ {
				if got, want := Delay(base, most, k), slowDelay(base, most, k); got != want {
					t.Fatalf("Delay(%d, %d, %d): got %d, want %d", base, most, k, got, want)
				}
			}
		}
	}
	d := draws(1)
	for range 100000 {
		base, most, k := d.upTo(42)-d.below(3), d.upTo(42)-d.below(3), d.below(110)-5
		if got, want := Delay(base, most, k), slowDelay(base, most, k); got != want {
			t.Fatalf("Delay(%d, %d, %d): got %d, want %d", base, most, k, got, want)
		}
	}
}

func TestP41New(t *testing.T) {
	for _, a := range [][3]int{
		{0, 5, 0}, {-1, 5, 0}, {math.MinInt, 5, 0}, {1<<40 + 1, 1 << 40, 0}, {1<<40 + 1, 1<<40 + 1, 0}, {math.MaxInt, math.MaxInt, 0},
		{1, 0, 0}, {1, -1, 0}, {1, math.MinInt, 0}, {1, 1<<40 + 1, 0}, {1, math.MaxInt, 0},
		{5, 4, 0}, {2, 1, 0}, {1 << 40, 1<<40 - 1, 0}, {0, 0, 0}, {-2, -1, 0},
		{1, 1, -1}, {1, 1, math.MinInt}, {1, 1, 1000001}, {1, 1, math.MaxInt}, {0, -1, -1},
	} {
		x, e := New(a[0], a[1], a[2])
		equal(t, "error", e, api.ErrArg)
		equal(t, "beside an error", x, nil)
	}
	for _, a := range [][3]int{
		{1, 1, 0}, {1, 1 << 40, 0}, {1 << 40, 1 << 40, 0}, {1 << 40, 1 << 40, 1000000}, {1<<40 - 1, 1 << 40, 999999}, {4, 4, 1}, {4, 5, 2},
	} {
		x := made(t, a[0], a[1], a[2])
		equal(t, "no tries", x.Tries(), 0)
		rests(t, "a new one", x)
		x.Start(0)
		runs(t, "its base", x, a[0], 0)
	}
}

func TestP42Start(t *testing.T) {
	x := started(t, 3, 10, 0, 10)
	runs(t, "started", x, 13, 0)
	fires(t, "at 13", x, 13)
	fires(t, "at 19", x, 19)
	runs(t, "after two", x, 29, 2)
	x.Start(20)
	runs(t, "started anew", x, 23, 0)
	x.Start(5)
	runs(t, "from an earlier time", x, 8, 0)
	x.Start(0)
	runs(t, "from the first time", x, 3, 0)
}

func TestP42Fired(t *testing.T) {
	x := started(t, 3, 10, 0, 10)
	for _, now := range []int{10, 11, 12, 0, -1, math.MinInt} {
		waits(t, "ahead of it", x, now)
		runs(t, "as it was", x, 13, 0)
	}
	fires(t, "just then", x, 13)
	runs(t, "from then", x, 19, 1)
	waits(t, "not twice", x, 13)
	waits(t, "one too early", x, 18)
	fires(t, "later", x, 25)
	runs(t, "from when it was asked", x, 35, 2)
	fires(t, "on", x, 35)
	runs(t, "no longer than cap", x, 45, 3)
	fires(t, "and on", x, 45)
	runs(t, "no longer than cap again", x, 55, 4)
}

func TestP42Late(t *testing.T) {
	for _, limit := range []int{1, 2, 3, 70} {
		x := started(t, 1, 4, limit, 0)
		for try := range limit {
			at, _ := x.At()
			fires(t, "a try that may be", x, at)
			equal(t, "tries", x.Tries(), try+1)
		}
		at, ok := x.At()
		equal(t, "runs after its last try", ok, true)
		waits(t, "not late yet", x, at-1)
		late(t, "one more", x, at)
		equal(t, "one try more", x.Tries(), limit+1)
		rests(t, "a late one", x)
		x.Start(100)
		runs(t, "again", x, 101, 0)
		fires(t, "and fires", x, 101)
		x.Stop()
		equal(t, "stopped", x.Tries(), 0)
	}
	x := started(t, 1, 1, 1, 0)
	fires(t, "a try", x, 1)
	late(t, "far behind", x, math.MaxInt)
	x.Stop()
	equal(t, "a late one that is stopped", x.Tries(), 0)
	rests(t, "a late one that is stopped", x)
}

func TestP42MostTries(t *testing.T) {
	x := started(t, 1, 1, 1000000, 0)
	for i := range 1000000 {
		if ok, e := x.Fired(i + 1); !ok || e != api.OK {
			t.Fatalf("try %d: got %v, %v", i+1, ok, e)
		}
	}
	late(t, "one more", x, 1000001)
}

func TestP42ForEver(t *testing.T) {
	x := started(t, 1, 100, 0, 0)
	now := 0
	for k := range 2000000 {
		at, ok := x.At()
		if want := now + slowStep(k); !ok || at != want {
			t.Fatalf("try %d: got %d, %v, want %d", k, at, ok, want)
		}
		now = at
		if ok, e := x.Fired(now); !ok || e != api.OK || x.Tries() != k+1 {
			t.Fatalf("try %d: got %v, %v", k+1, ok, e)
		}
	}
}

// slowStep is 1, doubled k times, 100 at most.
func slowStep(k int) int {
	if k >= 7 {
		return 100
	}
	return 1 << k
}

func TestP42Heard(t *testing.T) {
	x := started(t, 3, 10, 2, 10)
	fires(t, "one", x, 13)
	fires(t, "two", x, 19)
	x.Heard(25)
	runs(t, "none since", x, 28, 0)
	waits(t, "one too early", x, 27)
	fires(t, "one since", x, 28)
	runs(t, "later again", x, 34, 1)
	fires(t, "two since", x, 34)
	late(t, "three since", x, 44)
	x = started(t, 3, 10, 0, 10)
	x.Heard(12)
	runs(t, "put off", x, 15, 0)
	x.Heard(4)
	runs(t, "from an earlier time", x, 7, 0)
	x.Heard(1000)
	runs(t, "long after it would have fired", x, 1003, 0)
}

func TestP42Stop(t *testing.T) {
	x := started(t, 3, 10, 2, 10)
	fires(t, "one", x, 13)
	x.Stop()
	equal(t, "no tries", x.Tries(), 0)
	rests(t, "stopped", x)
	x.Stop()
	equal(t, "no tries", x.Tries(), 0)
	rests(t, "stopped twice", x)
	x.Start(50)
	runs(t, "again", x, 53, 0)
}

func TestP42Ends(t *testing.T) {
	for _, low := range []int{0, -1, math.MinInt} {
		x := started(t, 3, 10, 0, low)
		runs(t, "from 0", x, 3, 0)
		x.Heard(low)
		runs(t, "heard at 0", x, 3, 0)
		waits(t, "at 0", x, low)
	}
	for _, high := range []int{top, top + 1, math.MaxInt} {
		x := started(t, 3, 10, 2, high)
		runs(t, "at the end", x, top, 0)
		waits(t, "ahead of the end", x, top-1)
		fires(t, "at the end", x, high)
		runs(t, "no later than the end", x, top, 1)
		x.Heard(high)
		runs(t, "heard at the end", x, top, 0)
		fires(t, "at the end", x, top)
		fires(t, "at the end again", x, top)
		late(t, "in the end", x, top)
	}
	x := started(t, 1<<40, 1<<40, 0, top-1<<40)
	runs(t, "just at the end", x, top, 0)
	x.Start(top - 1<<40 - 1)
	runs(t, "just ahead of it", x, top-1, 0)
	x.Start(top - 1<<40 + 1)
	runs(t, "not beyond it", x, top, 0)
}

func TestP42Nil(t *testing.T) {
	var x *Timer
	for _, now := range []int{0, 1, -1, top, math.MaxInt, math.MinInt} {
		x.Start(now)
		rests(t, "nil", x)
		x.Stop()
		equal(t, "tries", x.Tries(), 0)
	}
}

// TestP42Zero: of one that New did not make the chapter says only what holds of all calls: they end, and none panics.
func TestP42Zero(t *testing.T) {
	var x Timer
	rests(t, "a zero one", &x)
	x.Start(4)
	runs(t, "as Delay clamps it", &x, 5, 0)
	fires(t, "so it fires", &x, 5)
}

func TestP42HaveNothingInCommon(t *testing.T) {
	x, y := started(t, 3, 10, 1, 10), started(t, 3, 10, 1, 10)
	fires(t, "one", x, 13)
	late(t, "one", x, 100)
	runs(t, "the other", y, 13, 0)
	x.Start(50)
	y.Stop()
	runs(t, "the one", x, 53, 0)
}

// sameStep does one thing to both timers and tells what they are then.
func sameStep(t *testing.T, d *draws, x *Timer, s *slow) {
	t.Helper()
	now := s.at + d.below(5) - 2
	if d.below(3) == 0 {
		now = d.upTo(51) - d.below(2)
	}
	switch d.below(12) {
	case 0, 1:
		x.Start(now)
		s.start(now)
	case 2, 3:
		x.Heard(now)
		s.heard(now)
	case 4:
		x.Stop()
		s.stop()
	default:
		got, e := x.Fired(now)
		want, f := s.fired(now)
		equal(t, "Fired", got, want)
		equal(t, "error of Fired", e, f)
	}
	at, ok := x.At()
	equal(t, "At", at, s.at)
	equal(t, "runs", ok, s.runs)
	equal(t, "Tries", x.Tries(), s.tries)
}

// TestP42StepByStep goes through many timers of all lengths, beside ones that go as the chapter's sentences go.
func TestP42StepByStep(t *testing.T) {
	d := draws(1)
	for round := range 5000 {
		base := max(d.upTo(40), 1)
		most, limit := max(d.upTo(40), base), d.below(5)
		x, s := made(t, base, most, limit), &slow{base: base, most: most, limit: limit}
		for step := range 60 {
			sameStep(t, &d, x, s)
			if t.Failed() {
				t.Fatalf("round %d, step %d: base %d, cap %d, tries %d", round, step, base, most, limit)
			}
		}
	}
}

// TestP43Delays: they never fall, and never pass cap; they come to it.
func TestP43Delays(t *testing.T) {
	d := draws(1)
	for range 2000 {
		base, most := d.upTo(42)-d.below(2), d.upTo(42)-d.below(2)
		last := 0
		for k := -3; k <= 110; k++ {
			delay := Delay(base, most, k)
			if delay < last || delay < 1 || delay > max(most, 1) || delay > 1<<40 {
				t.Fatalf("Delay(%d, %d, %d): got %d after %d", base, most, k, delay, last)
			}
			last = delay
		}
		equal(t, "in the end", last, within(most, 1, 1<<40))
	}
}

// TestP43Timers: what lies between two times that one fires never falls, and never passes cap.
func TestP43Timers(t *testing.T) {
	for _, a := range [][2]int{{1, 1}, {1, 100}, {3, 10}, {7, 1 << 20}, {1, 1 << 40}, {1 << 40, 1 << 40}} {
		now, last := 0, 0
		x := started(t, a[0], a[1], 0, now)
		for try := range 150 {
			at, ok := x.At()
			if gap := at - now; !ok || gap < last || gap < a[0] || gap > a[1] {
				t.Fatalf("base %d, cap %d, try %d: %d ticks after %d", a[0], a[1], try, gap, last)
			}
			last, now = at-now, at
			fires(t, "in its time", x, now)
		}
		equal(t, "in the end", last, a[1])
	}
}
