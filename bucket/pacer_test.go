package bucket

import (
	"math"
	"testing"

	"mizzen/api"
)

func pacer(t *testing.T, every int) *Pacer {
	t.Helper()
	p, e := NewPacer(every)
	if p == nil || e != api.OK {
		t.Fatalf("NewPacer(%d): got %v, %v", every, p, e)
	}
	return p
}

func TestP32New(t *testing.T) {
	for _, every := range []int{0, -1, math.MinInt, 1<<30 + 1, math.MaxInt} {
		p, e := NewPacer(every)
		equal(t, "error", e, api.ErrArg)
		equal(t, "beside an error", p, nil)
	}
	for _, every := range []int{1, 2, 1<<30 - 1, 1 << 30} {
		p := pacer(t, every)
		equal(t, "next at first", p.Next(), 0)
		equal(t, "at first", p.Go(0), true)
		equal(t, "at once again", p.Go(0), false)
		equal(t, "next", p.Next(), every)
		equal(t, "a tick too early", p.Go(every-1), false)
		equal(t, "then", p.Go(every), true)
	}
}

func TestP32Go(t *testing.T) {
	p := pacer(t, 5)
	equal(t, "true at first", p.Go(3), true)
	equal(t, "the same tick", p.Go(3), false)
	equal(t, "4 ticks", p.Go(7), false)
	equal(t, "what was refused puts nothing off", p.Next(), 8)
	equal(t, "5 ticks", p.Go(8), true)
	equal(t, "many ticks", p.Go(100), true)
	equal(t, "from then on", p.Next(), 105)
	equal(t, "none is saved up", p.Go(101), false)
	equal(t, "4 more", p.Go(104), false)
	equal(t, "5 more", p.Go(105), true)
}

func TestP32TimeNeverGoesBack(t *testing.T) {
	p := pacer(t, 5)
	equal(t, "below 0 is 0", p.Go(-100), true)
	equal(t, "next", p.Next(), 5)
	equal(t, "at 0", p.Go(0), false)
	equal(t, "5 ticks", p.Go(5), true)
	equal(t, "back", p.Go(0), false)
	equal(t, "far back", p.Go(math.MinInt), false)
	equal(t, "next as before", p.Next(), 10)
	equal(t, "a tick too early", p.Go(9), false)
	equal(t, "on", p.Go(10), true)
	q := pacer(t, 5)
	equal(t, "the least at first", q.Go(math.MinInt), true)
	equal(t, "next", q.Next(), 5)
}

func TestP32Next(t *testing.T) {
	p := pacer(t, 1)
	equal(t, "at first", p.Next(), 0)
	equal(t, "asking does nothing", p.Next(), 0)
	for now := range 100 {
		equal(t, "each tick", p.Go(now), true)
		equal(t, "once", p.Go(now), false)
		equal(t, "next", p.Next(), now+1)
	}
}

func TestP32EndOfTime(t *testing.T) {
	p := pacer(t, 10)
	equal(t, "near the end", p.Go(top-10), true)
	equal(t, "just at the end", p.Next(), top)
	equal(t, "ahead of it", p.Go(top-1), false)
	equal(t, "at the end", p.Go(top), true)
	equal(t, "none after it", p.Next(), top)
	equal(t, "time does not go on", p.Go(top+10), false)
	equal(t, "not at all", p.Go(math.MaxInt), false)
	q := pacer(t, 10)
	equal(t, "nearer", q.Go(top-9), true)
	equal(t, "none", q.Next(), top)
	equal(t, "none at the end", q.Go(top), false)
	equal(t, "none after the end", q.Go(top+1), false)
	r := pacer(t, 1<<30)
	equal(t, "beyond the end at first", r.Go(math.MaxInt), true)
	equal(t, "none", r.Next(), top)
	equal(t, "no more", r.Go(math.MaxInt), false)
}

func TestP32Nil(t *testing.T) {
	var p *Pacer
	for _, now := range []int{0, 1, -1, math.MaxInt, math.MinInt} {
		equal(t, "Go", p.Go(now), false)
		equal(t, "Next", p.Next(), top)
	}
}

func TestP32HaveNothingInCommon(t *testing.T) {
	p, q := pacer(t, 5), pacer(t, 5)
	equal(t, "one", p.Go(50), true)
	equal(t, "the other's next", q.Next(), 0)
	equal(t, "the other", q.Go(0), true)
}

// TestP32StepByStep holds a pacer against the chapter's sentences: the latest time, and the last time that it was true.
func TestP32StepByStep(t *testing.T) {
	d := draws(1)
	for round := range 2000 {
		every := max(d.upTo(30), 1)
		p := pacer(t, every)
		latest, last, first := 0, 0, true
		for range 60 {
			now := latest + d.upTo(d.below(50)) - d.below(every+1)
			latest = min(max(latest, now), top)
			want := first || latest-last >= every
			if want {
				first, last = false, latest
			}
			equal(t, "Go", p.Go(now), want)
			equal(t, "Next", p.Next(), min(last+every, top))
			if t.Failed() {
				t.Fatalf("round %d: every %d, now %d", round, every, now)
			}
		}
	}
}

// TestP33Paces: among any every ticks in a row one goes at most, and one goes in time, if it is asked for in each.
func TestP33Paces(t *testing.T) {
	for every := 1; every <= 9; every++ {
		p := pacer(t, every)
		for now := range 200 {
			next := p.Next()
			went := p.Go(now)
			equal(t, "each of every ticks", went, now%every == 0)
			equal(t, "when it said", went, next == now)
		}
	}
}
