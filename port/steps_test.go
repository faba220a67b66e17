package port

import (
	"slices"
	"testing"

	"mizzen/api"
)

// plain is a port as the chapter's sentences have it: lists, gone through each time.
type plain struct {
	room    int
	most    int
	trim    bool
	frames  []Item // in the order in which they came
	credits []Item
	now     int
	last    int // when the last credit was taken
	any     bool
}

func size(i Item) int {
	if i.Frame.Kind == api.FData {
		return 26 + i.Frame.Len
	}
	return 26
}

func prio(i Item) int { return min(max(i.Frame.Prio, 0), 7) }

func (p *plain) used() int {
	sum := 0
	for _, i := range p.frames {
		sum += size(i)
	}
	return sum
}

func (p *plain) put(i Item) int {
	if i.Frame.Kind == api.FCredit {
		if len(p.credits) >= p.most {
			return Dropped
		}
		p.credits = append(p.credits, i)
		return Queued
	}
	if p.used()+size(i) <= p.room {
		p.frames = append(p.frames, i)
		return Queued
	}
	if p.trim && i.Frame.Kind == api.FData && p.used()+26 <= p.room {
		p.frames = append(p.frames, head(i))
		return Trimmed
	}
	return Dropped
}

func (p *plain) waiting() []Item {
	list := slices.Clone(p.frames)
	slices.SortStableFunc(list, func(a, b Item) int { return prio(b) - prio(a) })
	return append(list, p.credits...)
}

// drop takes the k-th out; two that are the same are told apart by nothing, but the first one goes.
func (p *plain) drop(k int) answer {
	all := p.waiting()
	if k < 0 || k >= len(all) {
		return no()
	}
	if c := k - len(p.frames); c >= 0 {
		p.credits = slices.Delete(p.credits, c, c+1)
		return yes(all[k])
	}
	ahead := 0 // how many of its line stand ahead of it
	for _, i := range all[:k] {
		if prio(i) == prio(all[k]) {
			ahead++
		}
	}
	for at, i := range p.frames {
		if prio(i) != prio(all[k]) {
			continue
		}
		if ahead == 0 {
			p.frames = slices.Delete(p.frames, at, at+1)
			break
		}
		ahead--
	}
	return yes(all[k])
}

func (p *plain) take(now int) answer {
	p.now = min(max(p.now, now), api.MaxTime)
	if len(p.credits) > 0 && (!p.any || p.now-p.last >= 4) {
		p.any, p.last = true, p.now
		return p.drop(len(p.frames))
	}
	if len(p.frames) > 0 {
		return p.drop(0)
	}
	return no()
}

func (p *plain) double(k int) bool {
	all := p.waiting()
	return k >= 0 && k < len(all) && p.put(all[k]) != Dropped
}

// some is an item with a drawn Kind, Prio and size.
func some(d *draws, n int) Item {
	switch d.below(4) {
	case 0:
		return credit(n)
	case 1:
		return frame(1+d.below(12), d.below(11)-1, n)
	}
	return data(d.below(11)-1, d.below(40), n)
}

// step does one thing with both; of ten, so many put.
func step(t *testing.T, d *draws, p *Port, q *plain, putting, n int) {
	t.Helper()
	k := d.below(len(q.frames)+len(q.credits)+3) - 1
	switch c := d.below(10); {
	case c < putting:
		i := some(d, n)
		equal(t, "Put", p.Put(i), q.put(i))
	case c%5 == 4:
		equal(t, "Drop", drop(p, k), q.drop(k))
	case c%5 == 3:
		equal(t, "Double", p.Double(k), q.double(k))
	default:
		now := q.now + d.below(7) - 2
		equal(t, "Take", take(p, now), q.take(now))
	}
}

// TestP133Steps: step by step, against a plain one; Used is never above room, credits never above their number.
func TestP133Steps(t *testing.T) {
	for seed, room := range []int{0, 25, 26, 60, 200, 500, 2000} {
		for _, most := range []int{0, 1, 3, 10} {
			for _, trim := range []bool{false, true} {
				d := draws(100*seed + most)
				p, q := made(t, room, most, trim), &plain{room: room, most: most, trim: trim}
				for round, putting := range []int{9, 4, 6, 2, 7, 0, 5} {
					for n := range 150 {
						step(t, &d, p, q, putting, 200*round+n)
						stands(t, "stands", p, q.used(), len(q.credits), q.waiting()...)
						equal(t, "Used is above room", p.Used() > room, false)
						equal(t, "Credits is above their number", p.Credits() > most, false)
						if t.Failed() {
							t.Fatalf("room %d, credits %d, trim %v, round %d, step %d", room, most, trim, round, n)
						}
					}
				}
			}
		}
	}
}

// TestP133Many: many that wait, of which some go from between; each step is told at once.
func TestP133Many(t *testing.T) {
	const many = 100000
	p := made(t, 1<<30, many, false)
	for n := range many {
		puts(t, p, frame(api.FAck, n%8, n), credit(n))
	}
	equal(t, "one more", p.Put(credit(0)), Dropped)
	equal(t, "Used", p.Used(), 26*many)
	for n := range many / 8 {
		equal(t, "the first", drop(p, 0), yes(frame(api.FAck, 7, 8*n+7)))
		equal(t, "the last", drop(p, 2*many-2*n-2), yes(credit(many-n-1)))
		if n%100 == 0 {
			equal(t, "Double", p.Double(many), true)
		}
	}
	for n := range many / 8 {
		equal(t, "a credit", take(p, 4*n), yes(credit(n)))
		equal(t, "a frame", take(p, 4*n), yes(frame(api.FAck, 6, 8*n+6)))
	}
}
