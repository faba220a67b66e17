package fabric

import (
	"testing"

	"mizzen/api"
	"mizzen/port"
)

// roomy is data with room behind it, all of the same byte.
func roomy(fill byte) []byte {
	b := make([]byte, 10, 30)
	for k := range b[:30] {
		b[:30][k] = fill
	}
	return b
}

func roomyData(src, dst int, fill byte) api.Frame {
	f := data(src, dst, 10, int(fill))
	f.Data = roomy(fill)
	return f
}

// write writes into all of a frame's data, the room behind it, too.
func write(l ...api.Frame) {
	for _, f := range l {
		all := f.Data[:cap(f.Data)]
		for k := range all {
			all[k] = 'z'
		}
	}
}

// TestP154HandedIn: nothing of what is sent is changed, nor kept.
func TestP154HandedIn(t *testing.T) {
	f := made(t, 2, 1, 36+26, 1, true)
	for _, want := range []int{port.Queued, port.Trimmed, port.Dropped} {
		x := roomyData(0, 1, 'a')
		sends(t, f, 0, x, 0, want)
		equal(t, "not changed", told(x), told(roomyData(0, 1, 'a')))
		equal(t, "the room behind it", string(x.Data[:30]), string(roomy('a')[:30]))
		write(x)
	}
	bad := roomyData(0, 0, 'b')
	f.Send(0, bad, 0)
	equal(t, "refused, and not changed", told(bad), told(roomyData(0, 0, 'b')))
	serves(t, f, 0, 0, 0, 3, 3)
	takes(t, f, 1, head(roomyData(0, 1, 'a')), roomyData(0, 1, 'a'))
}

// TestP154NewMemory: what is done to an answer is not done to the fabric, nor to another answer.
func TestP154NewMemory(t *testing.T) {
	f := made(t, 4, 1, 1000, 1, true)
	a, b := roomyData(0, 3, 'a'), roomyData(0, 3, 'b')
	sends(t, f, 0, a, 0, port.Queued)
	sends(t, f, 0, b, 0, port.Queued)
	equal(t, "Double", f.Double(0, 0), api.OK)
	serves(t, f, 0, 0, 0, 0, 8, 8, 8, 11, 11, 11)
	equal(t, "Double on its way", f.Double(7, 1), api.OK)
	serves(t, f, 0, 7, 7, 7, 7)

	one, other := f.Arrived(3), f.Arrived(3)
	write(one...)
	clear(one)
	_ = append(one[:cap(one)], api.Frame{})
	frames(t, "another answer", other, a, b, a, b)
	frames(t, "Arrived was written", f.Arrived(3), a, b, a, b)
	for range 2 {
		x, _ := f.Take(3)
		write(x)
	}
	frames(t, "an answer of earlier", other, a, b, a, b)
	rest := f.Arrived(3)
	rest = append(rest, api.Frame{})
	write(rest...)
	takes(t, f, 3, a, b)
}

// TestP154Apart: fabrics have nothing in common, nor have the hosts of one.
func TestP154Apart(t *testing.T) {
	f, g := made(t, 4, 1, 100, 1, true), made(t, 4, 1, 100, 1, true)
	x, y := data(0, 3, 10, 1), data(1, 3, 20, 2)
	sends(t, f, 0, x, 0, port.Queued)
	equal(t, "Empty", g.Empty(), true)
	stands(t, "the other one", g, 0, nil, nil)
	sends(t, g, 1, y, 0, port.Queued)
	equal(t, "Drop", g.Drop(1, 0), api.OK)
	stands(t, "one", f, 0, map[int]int{0: 1}, map[int]int{3: 10})
	stands(t, "the other one", g, 1, nil, nil)
	serves(t, f, 0, 0, 8, 11, 7)
	takes(t, g, 3)
	takes(t, f, 2)
	takes(t, f, 3, x)
}

// TestP152Inbox: an inbox keeps no more places than four for each one in it, and nothing in those that are free.
func TestP152Inbox(t *testing.T) {
	var b inbox
	given, taken := 0, 0
	for round := range 40 {
		for range 60 * (round % 3) {
			b.put(data(0, 1, 3, given))
			given++
		}
		for range 20 * (round % 5) {
			x, ok := b.take()
			equal(t, "take", ok, taken < given)
			if ok {
				equal(t, "take", told(x), told(data(0, 1, 3, taken)))
				taken++
			}
			if cap(b.frames) > 4*b.count()+4 {
				t.Fatalf("%d places for %d", cap(b.frames), b.count())
			}
			for _, free := range b.frames[:b.first] {
				equal(t, "a free place", told(free), told(api.Frame{}))
			}
		}
		equal(t, "count", b.count(), given-taken)
	}
}
