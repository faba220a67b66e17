package credit

import (
	"math"
	"math/big"
	"strconv"
	"testing"

	"mizzen/api"
	"mizzen/num"
)

// ends are numbers beyond all limits, and right beside them.
var ends = []int{math.MinInt, math.MinInt + 1, -1 << 50, -1, 0, 1, 1<<30 - 1, 1 << 30, 1<<30 + 1, 1 << 34, 1<<34 + 1, 1 << 50, 1<<50 + 1, math.MaxInt - 1, math.MaxInt}

func equal[T comparable](t *testing.T, what string, got, want T) {
	t.Helper()
	if got != want {
		t.Errorf("%s: got %v, want %v", what, got, want)
	}
}

// made is a new rate.
func made(t *testing.T, most int, target num.Fix) *Rate {
	t.Helper()
	r, e := New(most, target)
	if r == nil || e != api.OK {
		t.Fatalf("New(%d, %d): got %v, %v", most, target, r, e)
	}
	return r
}

// stands holds all that a rate tells.
func stands(t *testing.T, what string, r *Rate, rate, aggr num.Fix, rises int) {
	t.Helper()
	equal(t, what+": Rate", r.Rate(), rate)
	equal(t, what+": Aggr", r.Aggr(), aggr)
	equal(t, what+": Rises", r.Rises(), rises)
}

// update lets a rate go on by a loss, and holds all that it tells then.
func update(t *testing.T, r *Rate, sent, lost int, rate, aggr num.Fix, rises int) {
	t.Helper()
	what := "Update(" + strconv.Itoa(sent) + ", " + strconv.Itoa(lost) + ")"
	equal(t, what, r.Update(sent, lost), rate)
	stands(t, "behind "+what, r, rate, aggr, rises)
}

// window holds what a window tells.
func window(t *testing.T, what string, l *Loss, sent, lost int) {
	t.Helper()
	gotSent, gotLost := l.Window()
	equal(t, what+": sent", gotSent, sent)
	equal(t, what+": lost", gotLost, lost)
}

// draws is a rule for numbers.
type draws uint64

func (d *draws) below(n int) int {
	*d = *d*6364136223846793005 + 1442695040888963407
	return int(uint64(*d)>>33) % n
}

// count is a number of any length and sign.
func (d *draws) count() int {
	switch d.below(8) {
	case 0:
		return ends[d.below(len(ends))]
	case 1:
		return -d.below(1 << 20)
	}
	return d.below(1 << (1 + d.below(31)))
}

// slow is a rate that goes the way that the chapter's sentences go, with numbers that have no end.
type slow struct {
	most, target, rate, a *big.Int
	last                  string // what the last Update that did something did
	rises                 int
}

func whole(n int) *big.Int        { return big.NewInt(int64(n)) }
func sum(a, b *big.Int) *big.Int  { return new(big.Int).Add(a, b) }
func less(a, b *big.Int) *big.Int { return new(big.Int).Sub(a, b) }

// over is a over b, cut.
func over(a, b *big.Int) *big.Int { return new(big.Int).Quo(a, b) }

// by is the product of two that have 16 digits behind the point.
func by(a, b *big.Int) *big.Int { return over(new(big.Int).Mul(a, b), whole(65536)) }

func within(v, low, high *big.Int) *big.Int {
	if v.Cmp(low) < 0 {
		return low
	}
	if v.Cmp(high) > 0 {
		return high
	}
	return v
}

func slowOf(most, target int) *slow {
	m := new(big.Int).Mul(whole(most), whole(65536))
	least := over(m, whole(64))
	return &slow{most: m, target: whole(target), rate: within(over(m, whole(16)), least, m), a: over(whole(65536), whole(2))}
}

func (s *slow) update(sent, lost int) {
	n := within(whole(sent), whole(0), whole(1<<30))
	k := within(within(whole(lost), whole(0), whole(1<<30)), whole(0), n)
	if n.Sign() == 0 {
		return
	}
	one := whole(65536)
	loss := over(new(big.Int).Mul(k, one), n)
	if loss.Cmp(s.target) <= 0 {
		if s.last == "raised" {
			s.a = over(sum(s.a, whole(32768)), whole(2))
		}
		s.rate = sum(by(s.a, s.most), by(less(one, s.a), s.rate))
		s.last = "raised"
		s.rises++
	} else {
		s.rate = by(by(s.rate, less(one, loss)), sum(one, s.target))
		s.a = over(s.a, whole(2))
		s.last = "fell"
		s.rises = 0
	}
	s.rate = within(s.rate, over(s.most, whole(64)), s.most)
	s.a = within(s.a, whole(1024), whole(32768))
}

func (s *slow) now() (rate, aggr num.Fix) {
	return num.Fix(s.rate.Int64()), num.Fix(s.a.Int64())
}

func TestP191New(t *testing.T) {
	for _, c := range []struct {
		most   int
		target num.Fix
	}{
		{0, 0}, {-1, 0}, {math.MinInt, 0}, {1<<20 + 1, 0}, {math.MaxInt, 0},
		{1, -1}, {1, math.MinInt}, {1, 65537}, {1, math.MaxInt}, {1 << 20, -1}, {1 << 20, 65537},
		{0, -1}, {1<<20 + 1, 65537},
	} {
		r, e := New(c.most, c.target)
		equal(t, "error", e, api.ErrArg)
		equal(t, "beside an error", r, nil)
	}
	for _, target := range []num.Fix{0, 1, 32768, 65535, 65536} {
		stands(t, "the least one", made(t, 1, target), 4096, 32768, 0)
		stands(t, "one that is odd", made(t, 999, target), 999*4096, 32768, 0)
		stands(t, "the greatest one", made(t, 1<<20, target), 1<<32, 32768, 0)
	}
}

func TestP191Example(t *testing.T) {
	r := made(t, 64, 0)
	equal(t, "Rate", r.Rate(), num.Of(4))
	r.Update(10, 0)
	equal(t, "Rises", r.Rises(), 1)
	equal(t, "it rose", r.Rate() > num.Of(4), true)
}

func TestP191Rise(t *testing.T) {
	r := made(t, 64, 0)
	update(t, r, 10, 0, 34<<16, 32768, 1)
	update(t, r, 10, 0, 49<<16, 32768, 2)
	update(t, r, 1, 0, 56<<16+1<<15, 32768, 3)
	update(t, r, 10, 10, 65536, 16384, 0)
	// a stays at the first rise behind a fall: 1/4 of 64, and 3/4 of 1.
	update(t, r, 10, 0, 16<<16+49152, 16384, 1)
	// The next time it is 3/8: 24, and 5/8 of what was.
	update(t, r, 10, 0, 24<<16+686080, 24576, 2)
}

func TestP191RiseOfAggr(t *testing.T) {
	r := made(t, 64, 0)
	for range 20 {
		r.Update(1, 1)
	}
	for n, aggr := range []num.Fix{1024, 16896, 24832, 28800, 30784, 31776, 32272, 32520, 32644, 32706, 32737, 32752, 32760, 32764, 32766, 32767, 32767} {
		r.Update(1, 0)
		equal(t, "Aggr, cut, at rise "+strconv.Itoa(n+1), r.Aggr(), aggr)
		equal(t, "Rises", r.Rises(), n+1)
	}
}

func TestP191Fall(t *testing.T) {
	r := made(t, 64, 0)
	update(t, r, 4, 1, 3<<16, 16384, 0)
	// The third that is lost is cut down, so that a bit more than 2 stays.
	update(t, r, 3, 1, 2<<16+1, 8192, 0)
	update(t, r, 4, 1, 98304, 4096, 0)
	update(t, r, 3, 3, 65536, 2048, 0)
	update(t, r, 3, 3, 65536, 1024, 0)
	update(t, r, 3, 3, 65536, 1024, 0)
}

func TestP191FallOrder(t *testing.T) {
	// In the other order, or cut once alone, each of these would be another one.
	r := made(t, 1, 32768)
	update(t, r, 2, 1, 34816, 32768, 1)
	update(t, r, 100, 51, 25590, 16384, 0)
	var d draws = 7
	other := 0
	for range 500 {
		most, target := 1+d.below(200), d.below(60000)
		r, sent := made(t, most, num.Fix(target)), 1+d.below(1000)
		was := int(r.Rate())
		loss := 65536 * d.below(sent+1) / sent
		lost := (loss*sent + 65535) / 65536
		loss = 65536 * lost / sent
		if loss <= target {
			continue
		}
		want := was * (65536 - loss) / 65536 * (65536 + target) / 65536
		if want < most*1024 {
			want = most * 1024
		} else if want != was*(65536+target)/65536*(65536-loss)/65536 {
			other++
		}
		equal(t, "the rate, then 1 - loss, then 1 + target", int(r.Update(sent, lost)), want)
	}
	equal(t, "some hang on the order", other > 20, true)
}

func TestP191Target(t *testing.T) {
	rises := func(target num.Fix, sent, lost int) int {
		r := made(t, 64, target)
		r.Update(sent, lost)
		return r.Rises()
	}
	equal(t, "no loss at all, target 0", rises(0, 1, 0), 1)
	equal(t, "the least loss, target 0", rises(0, 65536, 1), 0)
	equal(t, "a loss that is cut to none, target 0", rises(0, 65537, 1), 1)
	equal(t, "a half of a half", rises(32768, 2, 1), 1)
	equal(t, "just more than a half", rises(32768, 65536, 32769), 0)
	equal(t, "just less than a half", rises(32768, 65536, 32767), 1)
	equal(t, "all, target 1", rises(65536, 5, 5), 1)
	equal(t, "all, target just below 1", rises(65535, 5, 5), 0)
	equal(t, "nearly all, target just below 1", rises(65535, 65536, 65535), 1)
}

func TestP191Clamped(t *testing.T) {
	const most = 1 << 30
	rate := func(target num.Fix, sent, lost int) num.Fix {
		return made(t, 64, target).Update(sent, lost)
	}
	const up, least = 34 << 16, 1 << 16
	equal(t, "lost below 0", rate(0, 10, -1), up)
	equal(t, "lost far below 0", rate(0, 10, math.MinInt), up)
	equal(t, "lost above sent", rate(0, 4, 5), least)
	equal(t, "lost far above sent", rate(0, 4, math.MaxInt), least)
	equal(t, "sent beyond its limit: a half of that", rate(0, math.MaxInt, most/2), 2<<16)
	equal(t, "sent at its limit: a half of that", rate(0, most, most/2), 2<<16)
	equal(t, "sent one more", rate(0, most+1, most/2), 2<<16)
	equal(t, "both beyond: all is lost", rate(0, math.MaxInt, most), least)
	equal(t, "both beyond: all is lost", rate(0, math.MaxInt, math.MaxInt-1), least)
	equal(t, "all but one of what may be", rate(65535, most, most-1), up)
}

func TestP191Nothing(t *testing.T) {
	r := made(t, 64, 0)
	for _, sent := range []int{0, -1, math.MinInt} {
		for _, lost := range []int{0, 1, -1, math.MaxInt} {
			update(t, r, sent, lost, 4<<16, 32768, 0)
		}
	}
	r.Update(1, 1)
	r.Update(1, 0)
	rate := r.Rate()
	update(t, r, 0, 5, rate, 16384, 1)
	r.Update(1, 0)
	stands(t, "the rises that it stood between are in a row", r, r.Rate(), 24576, 2)

	r.Update(1, 1)
	update(t, r, 0, 0, r.Rate(), 12288, 0)
	r.Update(1, 0)
	stands(t, "the fall ahead of it was the last one", r, r.Rate(), 12288, 1)
}

func TestP191StepByStep(t *testing.T) {
	var d draws = 1
	for round := range 400 {
		most := 1 + d.below(1<<(1+d.below(20)))
		target := []int{0, 1, 655, 32768, 65535, 65536, d.below(65537), d.below(65537)}[d.below(8)]
		r, s := made(t, most, num.Fix(target)), slowOf(most, target)
		calm := d.below(4)
		for step := range 60 {
			sent, lost := d.count(), d.count()
			if d.below(4) < calm {
				lost = 0
			}
			s.update(sent, lost)
			got := r.Update(sent, lost)
			rate, aggr := s.now()
			what := "round " + strconv.Itoa(round) + ", step " + strconv.Itoa(step)
			equal(t, what, got, rate)
			stands(t, what, r, rate, aggr, s.rises)
			if t.Failed() {
				t.Fatalf("%s: New(%d, %d), Update(%d, %d)", what, most, target, sent, lost)
			}
		}
	}
}

func TestP191Ends(t *testing.T) {
	for _, most := range []int{1, 2, 3, 1<<20 - 1, 1 << 20} {
		for _, target := range []int{0, 1, 65535, 65536} {
			r, s := made(t, most, num.Fix(target)), slowOf(most, target)
			for _, sent := range ends {
				for _, lost := range ends {
					s.update(sent, lost)
					rate, aggr := s.now()
					update(t, r, sent, lost, rate, aggr, s.rises)
				}
			}
		}
	}
}

func TestP192Loss(t *testing.T) {
	var l Loss
	window(t, "a zero one", &l, 0, 0)
	for seq := 1; seq <= 5; seq++ {
		l.Sent(seq)
	}
	l.Used(4)
	l.Used(2)
	window(t, "two of five came back", &l, 5, 3)
	window(t, "it began anew", &l, 0, 0)
	l.Sent(6)
	window(t, "one that did not come back", &l, 1, 1)
	l.Sent(7)
	l.Used(7)
	window(t, "one that came back", &l, 1, 0)
}

func TestP192Once(t *testing.T) {
	var l Loss
	l.Sent(1)
	l.Sent(2)
	l.Sent(3)
	l.Used(2)
	l.Used(2)
	l.Used(2)
	l.Used(2)
	window(t, "one that came back again and again", &l, 3, 2)
}

func TestP192Others(t *testing.T) {
	var l Loss
	l.Used(1)
	l.Used(2)
	window(t, "none was sent", &l, 0, 0)
	l.Used(1)
	l.Sent(1)
	window(t, "it came back ahead of being sent", &l, 1, 1)
	l.Sent(3)
	l.Used(2)
	l.Used(4)
	l.Used(-3)
	window(t, "others came back", &l, 1, 1)
}

func TestP192Anew(t *testing.T) {
	var l Loss
	l.Sent(1)
	l.Sent(2)
	l.Used(1)
	window(t, "the first one", &l, 2, 1)
	l.Used(1)
	l.Used(2)
	window(t, "those of the first one", &l, 0, 0)
	l.Sent(3)
	l.Used(2)
	window(t, "one of the first one", &l, 1, 1)
	l.Sent(2)
	l.Used(2)
	window(t, "its number, sent anew", &l, 1, 0)
}

func TestP192Doubled(t *testing.T) {
	var l Loss
	l.Sent(1)
	l.Sent(1)
	window(t, "a number that was sent twice", &l, 2, 2)
	l.Sent(1)
	l.Sent(1)
	l.Used(1)
	l.Used(1)
	window(t, "its number counts once", &l, 2, 1)
	l.Sent(1)
	l.Used(1)
	l.Sent(1)
	window(t, "sent anew, and not used", &l, 2, 1)
	l.Sent(1)
	l.Used(1)
	l.Sent(1)
	l.Used(1)
	window(t, "sent anew, and used anew", &l, 2, 0)
}

func TestP192Ends(t *testing.T) {
	var l Loss
	for _, seq := range ends {
		l.Sent(seq)
	}
	for n, seq := range ends {
		if n%3 == 0 {
			l.Used(seq)
		}
	}
	window(t, "any number", &l, 15, 10)
}

func TestP192StepByStep(t *testing.T) {
	var d draws = 2
	var l Loss
	// A credit that was sent: its number, and whether it came back.
	type one struct {
		seq  int
		used bool
	}
	var all []one
	next := 0
	for range 100000 {
		switch k := d.below(40); {
		case k < 20:
			l.Sent(next)
			all = append(all, one{seq: next})
			next++
		case k < 39:
			seq := next - d.below(30)
			l.Used(seq)
			for i := range all {
				if all[i].seq == seq {
					all[i].used = true
				}
			}
		default:
			lost := 0
			for _, o := range all {
				if !o.used {
					lost++
				}
			}
			window(t, "step by step", &l, len(all), lost)
			all = nil
		}
	}
}

func TestP192Many(t *testing.T) {
	const many = 200000
	var l Loss
	for seq := range many {
		l.Sent(seq)
	}
	for seq := range many {
		if seq%4 != 0 {
			l.Used(many - 1 - seq)
		}
	}
	equal(t, "no more kept than may still come back", len(l.out), many/4)
	window(t, "many", &l, many, many/4)
	equal(t, "nothing kept of a window that has ended", l.out == nil, true)
}

func TestP192Nil(t *testing.T) {
	var l *Loss
	l.Sent(1)
	l.Used(1)
	window(t, "a nil one", l, 0, 0)

	var r *Rate
	for _, sent := range ends {
		for _, lost := range ends {
			update(t, r, sent, lost, 0, 0, 0)
			// One that New did not make answers like a nil one.
			update(t, &Rate{}, sent, lost, 0, 0, 0)
		}
	}
}

func TestP192Apart(t *testing.T) {
	a, b := made(t, 64, 0), made(t, 64, 0)
	a.Update(1, 1)
	stands(t, "the other rate", b, 4<<16, 32768, 0)
	var k, l Loss
	k.Sent(1)
	l.Used(1)
	l.Sent(2)
	window(t, "one", &k, 1, 1)
	window(t, "the other one", &l, 1, 1)
}

func TestP193Limits(t *testing.T) {
	var d draws = 3
	for range 300 {
		most := []int{1, 2, 1 << 20, 1 + d.below(1000)}[d.below(4)]
		r := made(t, most, num.Fix(d.below(65537)))
		least, greatest := num.Of(most)/64, num.Of(most)
		for range 100 {
			rate := r.Update(d.count(), d.count())
			equal(t, "the rate is within its limits", least <= rate && rate <= greatest, true)
			equal(t, "a is within its limits", 1024 <= r.Aggr() && r.Aggr() <= 32768, true)
		}
	}
}

func TestP193Least(t *testing.T) {
	for _, most := range []int{1, 3, 64, 1 << 20} {
		r := made(t, most, 0)
		for range 100 {
			r.Update(9, 9)
		}
		stands(t, "all is lost, always", r, num.Of(most)/64, 1024, 0)
	}
}

func TestP193ToMost(t *testing.T) {
	for _, most := range []int{1, 3, 64, 999, 1 << 20} {
		r := made(t, most, 0)
		for range 9 {
			r.Update(9, 9)
		}
		was := r.Rate()
		for range 100 {
			rate := r.Update(9, 0)
			equal(t, "without loss it does not fall", rate >= was, true)
			was = rate
		}
		// What is cut off on the way is wanting in the end: two of the least digits at most.
		equal(t, "it rose to most", was <= num.Of(most) && was >= num.Of(most)-2, true)
		equal(t, "Rises", r.Rises(), 100)
	}
}
