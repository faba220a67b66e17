package bucket

import (
	"math"
	"math/big"
	"testing"

	"mizzen/api"
	"mizzen/num"
)

const top = api.MaxTime

func equal[T comparable](t *testing.T, what string, got, want T) {
	t.Helper()
	if got != want {
		t.Errorf("%s: got %v, want %v", what, got, want)
	}
}

func made(t *testing.T, rate num.Fix, depth int) *Bucket {
	t.Helper()
	b, e := New(rate, depth)
	if b == nil || e != api.OK {
		t.Fatalf("New(%d, %d): got %v, %v", rate, depth, b, e)
	}
	return b
}

// empty is a bucket from which all is taken at time 0.
func empty(t *testing.T, rate num.Fix, depth int) *Bucket {
	t.Helper()
	b := made(t, rate, depth)
	equal(t, "all of it", b.Take(0, depth), true)
	return b
}

// draws is a rule for numbers that hits all lengths.
type draws uint64

func (d *draws) below(n int) int {
	*d = *d*6364136223846793005 + 1442695040888963407
	return int(uint64(*d)>>33) % n
}

// upTo is a number of any length, from 0 to 2^digits.
func (d *draws) upTo(digits int) int {
	full := d.below(1<<30)<<30 | d.below(1<<30)
	return min(full>>(60-d.below(digits+2)), 1<<digits)
}

// slow is a bucket whose level can't run over, in 65536ths; it goes the way that the chapter's sentences go.
type slow struct {
	rate, depth, now int
	level            *big.Int
}

func fixed(n int) *big.Int {
	return new(big.Int).Lsh(big.NewInt(int64(n)), 16)
}

func slowly(rate num.Fix, depth int) *slow {
	return &slow{rate: int(rate), depth: depth, level: fixed(depth)}
}

func (s *slow) levelAt(that int) *big.Int {
	level := new(big.Int).Mul(big.NewInt(int64(s.rate)), big.NewInt(int64(that-s.now)))
	level.Add(level, s.level)
	if full := fixed(s.depth); level.Cmp(full) > 0 {
		return full
	}
	return level
}

func (s *slow) goOn(now int) {
	to := min(max(now, s.now), top)
	s.level = s.levelAt(to)
	s.now = to
}

func (s *slow) has(now int) int {
	s.goOn(now)
	return int(new(big.Int).Rsh(s.level, 16).Int64())
}

func (s *slow) take(now, n int) bool {
	if has := s.has(now); n < 0 || n > has {
		return false
	}
	s.level = new(big.Int).Sub(s.level, fixed(n))
	return true
}

// when looks for the first time by halves: once there is enough, there is enough at each later time.
func (s *slow) when(now, n int) int {
	s.goOn(now)
	if n < 0 || n > s.depth {
		return top
	}
	early, late := s.now, top
	for early < late {
		middle := early + (late-early)/2
		if s.levelAt(middle).Cmp(fixed(n)) >= 0 {
			late = middle
		} else {
			early = middle + 1
		}
	}
	return early
}

func (s *slow) setRate(now int, rate num.Fix) {
	s.goOn(now)
	s.rate = min(max(int(rate), 0), 1<<34)
}

func TestP31New(t *testing.T) {
	type arguments struct {
		rate  num.Fix
		depth int
	}
	for _, a := range []arguments{{-1, 1}, {math.MinInt, 1}, {1<<34 + 1, 1}, {math.MaxInt, 1}, {num.Of(1 << 34), 1}, {1, 0}, {1, -1}, {1, math.MinInt}, {1, 1<<30 + 1}, {1, math.MaxInt}, {-1, 0}} {
		b, e := New(a.rate, a.depth)
		equal(t, "error", e, api.ErrArg)
		equal(t, "beside an error", b, nil)
	}
	for _, a := range []arguments{{0, 1}, {1, 1}, {1 << 34, 1}, {1<<34 - 1, 1 << 30}, {0, 1 << 30}, {1 << 34, 1 << 30}, {num.Of(1), 2}} {
		b := made(t, a.rate, a.depth)
		equal(t, "full at first", b.Has(0), a.depth)
		equal(t, "more than all", b.Take(0, a.depth+1), false)
		equal(t, "all", b.Take(0, a.depth), true)
		equal(t, "empty at the same time", b.Has(0), 0)
	}
}

func TestP31Example(t *testing.T) {
	b := made(t, num.Of(1), 2)
	equal(t, "2 at 0", b.Take(0, 2), true)
	equal(t, "1 more at 0", b.Take(0, 1), false)
	equal(t, "1 at 1", b.Take(1, 1), true)
}

func TestP31Take(t *testing.T) {
	b := made(t, num.Of(2), 10)
	equal(t, "0", b.Take(0, 0), true)
	equal(t, "0 takes nothing", b.Has(0), 10)
	equal(t, "below 0", b.Take(0, -1), false)
	equal(t, "the least", b.Take(0, math.MinInt), false)
	equal(t, "below 0 gives nothing", b.Has(0), 10)
	equal(t, "above depth", b.Take(0, 11), false)
	equal(t, "the greatest", b.Take(0, math.MaxInt), false)
	equal(t, "a number whose Fix would run round", b.Take(0, 1<<48), false)
	equal(t, "what is refused takes nothing", b.Has(0), 10)
	equal(t, "some", b.Take(0, 7), true)
	equal(t, "so much less", b.Has(0), 3)
	equal(t, "one too many", b.Take(0, 4), false)
	equal(t, "the rest", b.Take(0, 3), true)
	equal(t, "0 of nothing", b.Take(0, 0), true)
	equal(t, "1 of nothing", b.Take(0, 1), false)
	equal(t, "ahead of its time", b.Take(2, 5), false)
	equal(t, "in its time", b.Take(2, 4), true)
}

func TestP31Gains(t *testing.T) {
	b := empty(t, num.Of(3), 10)
	equal(t, "at once", b.Has(0), 0)
	equal(t, "a tick", b.Has(1), 3)
	equal(t, "the same tick again", b.Has(1), 3)
	equal(t, "three", b.Has(3), 9)
	equal(t, "up to depth", b.Has(4), 10)
	equal(t, "no more than depth", b.Has(1000), 10)
	equal(t, "what ran over is gone", b.Take(1000, 10), true)
	equal(t, "empty again", b.Has(1000), 0)
	equal(t, "and on", b.Has(1001), 3)
	half, _ := num.Part(1, 2)
	c := empty(t, half, 10)
	equal(t, "half is cut", c.Has(1), 0)
	equal(t, "half is kept", c.Has(2), 1)
	equal(t, "2 and a half", c.Take(5, 2), true)
	equal(t, "the half is left", c.Has(6), 1)
}

// TestP31Thirds: a third is a little too small, so that the fourth tick is needed for 1.
func TestP31Thirds(t *testing.T) {
	third, _ := num.Part(1, 3)
	b := empty(t, third, 100)
	equal(t, "1 comes", b.When(0, 1), 4)
	equal(t, "three", b.Has(3), 0)
	equal(t, "four", b.Has(4), 1)
	equal(t, "100 come", b.When(4, 100), 301)
	equal(t, "ahead of it", b.Has(300), 99)
	equal(t, "then", b.Has(301), 100)
}

func TestP31TimeNeverGoesBack(t *testing.T) {
	calls := []func(b *Bucket, now int){
		func(b *Bucket, now int) { b.Take(now, 0) },
		func(b *Bucket, now int) { b.Take(now, -1) },
		func(b *Bucket, now int) { b.Take(now, 1<<30) },
		func(b *Bucket, now int) { b.When(now, 1) },
		func(b *Bucket, now int) { b.When(now, -1) },
		func(b *Bucket, now int) { b.When(now, 1<<30) },
		func(b *Bucket, now int) { b.Has(now) },
		func(b *Bucket, now int) { b.SetRate(now, num.Of(1)) },
	}
	for i, call := range calls {
		b := empty(t, num.Of(1), 100)
		call(b, 7)
		equal(t, "let time go on", b.Has(0), 7)
		for _, back := range []int{6, 0, -1, math.MinInt} {
			call(b, back)
			equal(t, "did not let it go back", b.When(0, 8), 8)
		}
		equal(t, "once", b.Has(9), 9)
		if t.Failed() {
			t.Fatalf("call %d", i)
		}
	}
}

func TestP31AtMostMaxTime(t *testing.T) {
	for _, end := range []int{top, top + 1, math.MaxInt} {
		b := empty(t, 1, 1<<30)
		equal(t, "2^50 ticks of a 65536th, up to depth", b.Has(end), 1<<30)
		equal(t, "all", b.Take(end, 1<<30), true)
		equal(t, "no time after the end", b.Has(math.MaxInt), 0)
		equal(t, "the end for ever", b.When(math.MaxInt, 0), top)
		b.SetRate(end, 1<<34)
		equal(t, "nothing comes", b.When(0, 1), top)
		equal(t, "nothing came", b.Take(math.MaxInt, 1), false)
	}
}

// TestP31Far: the rates and times that are products above all that an int holds.
func TestP31Far(t *testing.T) {
	b := empty(t, 1<<34, 1<<30)
	equal(t, "the greatest rate, 2^12 - 1 ticks", b.Has(1<<12-1), 1<<30-1<<18)
	equal(t, "2^12 ticks", b.Has(1<<12), 1<<30)
	equal(t, "all", b.Take(1<<12, 1<<30), true)
	equal(t, "the rest of time", b.Has(top), 1<<30)
	c := empty(t, 1<<34, 1)
	equal(t, "2^30 ticks, a product of 2^64", c.Has(1<<30), 1)
	d := empty(t, 1, 1<<30)
	equal(t, "a tick too early", d.Has(1<<46-1), 1<<30-1)
	equal(t, "all of the slowest", d.Has(1<<46), 1<<30)
}

func TestP31When(t *testing.T) {
	b := empty(t, num.Of(2), 10)
	equal(t, "0", b.When(0, 0), 0)
	equal(t, "1", b.When(0, 1), 1)
	equal(t, "2", b.When(0, 2), 1)
	equal(t, "3", b.When(0, 3), 2)
	equal(t, "depth", b.When(0, 10), 5)
	equal(t, "above depth", b.When(0, 11), top)
	equal(t, "the greatest", b.When(0, math.MaxInt), top)
	equal(t, "a number whose Fix would run round", b.When(0, 1<<48), top)
	equal(t, "below 0", b.When(0, -1), top)
	equal(t, "the least", b.When(0, math.MinInt), top)
	equal(t, "now, if it is there", b.When(4, 8), 4)
	equal(t, "later than now", b.When(4, 9), 5)
	equal(t, "asked from an earlier time on", b.When(1, 8), 4)
	equal(t, "it takes nothing", b.Has(4), 8)
	equal(t, "full long ago", b.When(70, 10), 70)
	equal(t, "at the end of time", b.When(top+5, 10), top)
}

func TestP31WhenItNeverComes(t *testing.T) {
	b := made(t, 0, 5)
	equal(t, "some", b.Take(0, 3), true)
	equal(t, "it is there", b.When(6, 2), 6)
	equal(t, "no rate", b.When(6, 3), top)
	equal(t, "none came", b.Has(top), 2)
	c := empty(t, 1, 1<<30)
	equal(t, "in the last tick of time", c.When(top-65536, 1<<30), top-65536)
	equal(t, "all", c.Take(top-65536, 1<<30), true)
	equal(t, "1 at the end of time", c.When(0, 1), top)
	equal(t, "2 after it", c.When(0, 2), top)
	equal(t, "not at the end yet", c.Take(top-1, 1), false)
	equal(t, "at the end", c.Take(top, 1), true)
	equal(t, "never", c.Take(math.MaxInt, 1), false)
}

// tried is the first time, up to the last one, at which a bucket like b would let n be taken.
func tried(b *Bucket, last, n int) int {
	for that := b.now; that <= last; that++ {
		if like := *b; like.Take(that, n) {
			return that
		}
	}
	return top
}

func TestP31WhenIsTheFirstTime(t *testing.T) {
	for _, rate := range []num.Fix{1 << 12, 21845, 43690, 65535, 65536, 65537, 100000, 1 << 17, 1 << 34} {
		b := made(t, rate, 12)
		for now := range 40 {
			b.Take(now, now%5)
			for n := -1; n <= 13; n++ {
				if got, want := b.When(now, n), tried(b, now+12*16+1, n); got != want {
					t.Fatalf("rate %d, When(%d, %d): got %d, want %d", rate, now, n, got, want)
				}
			}
		}
	}
}

func TestP31SetRate(t *testing.T) {
	b := empty(t, num.Of(1), 100)
	b.SetRate(5, num.Of(10))
	equal(t, "the old rate till then", b.Has(5), 5)
	equal(t, "the new one from then on", b.Has(6), 15)
	b.SetRate(2, num.Of(20))
	equal(t, "not of an earlier time", b.Has(0), 15)
	equal(t, "the newest one from now on", b.Has(7), 35)
	b.SetRate(7, 0)
	equal(t, "none", b.Has(1000), 35)
	equal(t, "it never comes", b.When(1000, 36), top)
	b.SetRate(2000, num.Of(1))
	equal(t, "again", b.When(0, 36), 2001)
}

func TestP31SetRateEnds(t *testing.T) {
	for _, below := range []num.Fix{-1, -5, math.MinInt, 0} {
		b := empty(t, num.Of(1), 10)
		b.SetRate(3, below)
		equal(t, "as 0", b.Has(top), 3)
	}
	for _, above := range []num.Fix{1 << 34, 1<<34 + 1, 1 << 40, math.MaxInt} {
		b := empty(t, num.Of(1), 1<<30)
		b.SetRate(0, above)
		equal(t, "as 2^34", b.Has(1), 1<<18)
	}
	b := empty(t, num.Of(1), 1<<30)
	b.SetRate(0, 1<<34-1)
	equal(t, "just below the end", b.Has(2), 1<<19-1)
}

func TestP31Nil(t *testing.T) {
	var b *Bucket
	for _, now := range []int{0, 5, -1, math.MaxInt, math.MinInt} {
		for _, n := range []int{0, 1, -1, math.MaxInt} {
			equal(t, "Take", b.Take(now, n), false)
			equal(t, "When", b.When(now, n), top)
		}
		equal(t, "Has", b.Has(now), 0)
		b.SetRate(now, num.Of(1))
	}
}

// TestP31Zero: of one that New did not make the chapter says only what holds of all calls: they end, and none panics.
func TestP31Zero(t *testing.T) {
	var b Bucket
	equal(t, "holds nothing", b.Has(top), 0)
	equal(t, "gives nothing", b.Take(0, 1), false)
	b.SetRate(0, 1<<34)
	equal(t, "never", b.When(0, 1), top)
}

func TestP31HaveNothingInCommon(t *testing.T) {
	a, b := made(t, num.Of(1), 5), made(t, num.Of(1), 5)
	a.Take(10, 5)
	a.SetRate(10, 0)
	equal(t, "the other is full", b.Take(0, 5), true)
	equal(t, "the other has its time and rate", b.Has(3), 3)
}

// sameStep does one thing to both buckets and tells whether they answered alike.
func sameStep(t *testing.T, d *draws, b *Bucket, s *slow) {
	t.Helper()
	now := s.now + d.upTo(d.below(50)) - d.below(3)
	n := d.upTo(31) - d.below(2)
	switch d.below(4) {
	case 0:
		equal(t, "Has", b.Has(now), s.has(now))
	case 1:
		equal(t, "Take", b.Take(now, n), s.take(now, n))
	case 2:
		equal(t, "When", b.When(now, n), s.when(now, n))
	case 3:
		rate := num.Fix(d.upTo(35) - d.below(2))
		b.SetRate(now, rate)
		s.setRate(now, rate)
	}
	equal(t, "level", big.NewInt(int64(b.level)).Cmp(s.level), 0)
	equal(t, "now", b.now, s.now)
}

// TestP31StepByStep goes through many buckets of all lengths, beside ones that can't run over.
func TestP31StepByStep(t *testing.T) {
	d := draws(1)
	for round := range 3000 {
		rate, depth := num.Fix(d.upTo(34)), max(d.upTo(30), 1)
		b, s := made(t, rate, depth), slowly(rate, depth)
		for step := range 30 {
			sameStep(t, &d, b, s)
			if t.Failed() {
				t.Fatalf("round %d, step %d: rate %d, depth %d", round, step, rate, depth)
			}
		}
	}
}

// TestP33NoMoreIsTaken takes all that it can, and holds what was taken between any two times against the bound.
func TestP33NoMoreIsTaken(t *testing.T) {
	for _, rate := range []num.Fix{0, 1 << 10, 21845, 65536, 98304, 1 << 18} {
		const depth = 9
		d := draws(rate)
		b := made(t, rate, depth)
		var times, sums []int
		now, taken := 0, 0
		for range 400 {
			now += d.below(4)
			times, sums = append(times, now), append(sums, taken)
			for n := d.below(depth + 1); b.Take(now, max(n, 1)); n /= 2 {
				taken += max(n, 1)
			}
			for i, from := range times {
				if (taken-sums[i])<<16 > depth<<16+int(rate)*(now-from) {
					t.Fatalf("rate %d: %d were taken from %d to %d", rate, taken-sums[i], from, now)
				}
			}
		}
	}
}

// TestP33NoLessIsThere: in however many steps time goes by, the same is there.
func TestP33NoLessIsThere(t *testing.T) {
	for _, rate := range []num.Fix{0, 1, 1 << 10, 21845, 65535, 65537} {
		b, c := empty(t, rate, 50), empty(t, rate, 50)
		for now := range 2000 {
			b.Has(now)
		}
		equal(t, "the same", b.Has(1999), c.Has(1999))
		equal(t, "the same to come", b.When(1999, 50), c.When(1999, 50))
	}
}
