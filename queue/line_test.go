package queue

import (
	"testing"
)

// TestP122Room: a line keeps room for what stands in it, not for what stood there, and nothing of that.
func TestP122Room(t *testing.T) {
	const most = 3000
	for _, take := range []func(l *line[*int]) int{
		func(*line[*int]) int { return 0 },
		func(l *line[*int]) int { return l.count / 2 },
		func(l *line[*int]) int { return l.count / 3 },
		func(l *line[*int]) int { return l.count - 1 },
	} {
		l := line[*int]{}
		equal(t, "places of none", len(l.places), 0)
		for i := range most {
			l.push(item[*int]{v: &i, bytes: 1})
			holdsRoom(t, &l, 2)
		}
		for range most {
			l.take(take(&l))
			holdsRoom(t, &l, 4)
		}
		equal(t, "places at last", len(l.places), fewestPlaces)
	}
}

// holdsRoom holds that a line has not many more places than it needs, and that those where nothing stands are zero.
func holdsRoom(t *testing.T, l *line[*int], times int) {
	t.Helper()
	if len(l.places) < l.count || len(l.places) > max(fewestPlaces, times*l.count) {
		t.Fatalf("%d places for %d", len(l.places), l.count)
	}
	filled := 0
	for _, in := range l.places {
		if in != (item[*int]{}) {
			filled++
		}
	}
	if filled != l.count {
		t.Fatalf("%d places that are not zero for %d", filled, l.count)
	}
}

// TestP122OneByOne: one in, one out, at each place of the ring.
func TestP122OneByOne(t *testing.T) {
	l := line[*int]{}
	for i := range 100 {
		l.push(item[*int]{v: &i})
		holdsRoom(t, &l, 1)
		equal(t, "take", l.take(0).v, &i)
		holdsRoom(t, &l, 1)
	}
}
