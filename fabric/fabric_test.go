package fabric

import (
	"fmt"
	"math"
	"slices"
	"strconv"
	"strings"
	"testing"

	"mizzen/api"
	"mizzen/port"
	"mizzen/topo"
)

func equal[T comparable](t *testing.T, what string, got, want T) {
	t.Helper()
	if got != want {
		t.Errorf("%s: got %v, want %v", what, got, want)
	}
}

// told is all of a frame, as a text, in which nil data are as good as none.
func told(f api.Frame) string {
	var s strings.Builder
	for _, n := range []int{f.Kind, f.Src, f.Dst, f.Prio, f.Off, f.Len, f.Total, f.Num} {
		s.WriteString(strconv.Itoa(n) + " ")
	}
	return s.String() + strconv.FormatUint(f.Msg, 10) + " " + strconv.Quote(string(f.Data))
}

// frames holds two lists of frames, of which nil is as good as an empty one.
func frames(t *testing.T, what string, got []api.Frame, want ...api.Frame) {
	t.Helper()
	if !slices.EqualFunc(got, want, func(a, b api.Frame) bool { return told(a) == told(b) }) {
		t.Errorf("%s: got %d, want %d", what, len(got), len(want))
		for _, f := range got[:min(len(got), 10)] {
			t.Error("got ", told(f))
		}
		for _, f := range want[:min(len(want), 10)] {
			t.Error("want", told(f))
		}
	}
}

// made is an empty one.
func made(t *testing.T, hosts, spines, room, credits int, trim bool) *Fabric {
	t.Helper()
	f, e := New(hosts, spines, room, credits, trim)
	if f == nil || e != api.OK {
		t.Fatalf("New(%d, %d, %d, %d, %v): got %v, %v", hosts, spines, room, credits, trim, f, e)
	}
	return f
}

// small is one frame of that Kind with no field at an edge, told from others by n.
func small(kind, src, dst, n int) api.Frame {
	return api.Frame{Kind: kind, Src: src, Dst: dst, Prio: 3, Msg: uint64(n) + 1<<40, Off: 70000, Total: 1 << 29, Num: n}
}

// data is an FData frame with so many bytes.
func data(src, dst, size, n int) api.Frame {
	f := small(api.FData, src, dst, n)
	f.Len = size
	f.Data = make([]byte, size)
	for k := range f.Data {
		f.Data[k] = byte(n + 7*k + 1)
	}
	return f
}

// head is what is left of an FData frame that is trimmed.
func head(f api.Frame) api.Frame {
	f.Kind, f.Prio, f.Data = api.FHeader, 7, nil
	return f
}

// sends sends one, and holds what became of it.
func sends(t *testing.T, f *Fabric, host int, frame api.Frame, path, want int) {
	t.Helper()
	done, e := f.Send(host, frame, path)
	equal(t, "Send: error", e, api.OK)
	equal(t, "Send", done, want)
}

// serves serves ports, one behind the other, at that time, and holds that each of them moved one.
func serves(t *testing.T, f *Fabric, now int, ports ...int) {
	t.Helper()
	for _, p := range ports {
		moved, e := f.Serve(p, now)
		equal(t, fmt.Sprint("Serve(", p, ", ", now, "): error"), e, api.OK)
		equal(t, fmt.Sprint("Serve(", p, ", ", now, ")"), moved, true)
	}
}

// rests serves ports likewise, and holds that none of them moved one.
func rests(t *testing.T, f *Fabric, now int, ports ...int) {
	t.Helper()
	for _, p := range ports {
		moved, e := f.Serve(p, now)
		equal(t, fmt.Sprint("Serve(", p, ", ", now, "): error"), e, api.OK)
		equal(t, fmt.Sprint("Serve(", p, ", ", now, ")"), moved, false)
	}
}

// takes takes all that arrived at a host, and holds what it is.
func takes(t *testing.T, f *Fabric, host int, want ...api.Frame) {
	t.Helper()
	frames(t, "Arrived", f.Arrived(host), want...)
	for k := range want {
		x, ok := f.Take(host)
		equal(t, "Take", ok, true)
		equal(t, "Take", told(x), told(want[k]))
		frames(t, "Arrived", f.Arrived(host), want[k+1:]...)
	}
	x, ok := f.Take(host)
	equal(t, "Take of nothing", ok, false)
	equal(t, "Take of nothing", told(x), told(api.Frame{}))
}

// stands holds how many wait at each port, how many are lost, and how many bytes of data wait for each host.
func stands(t *testing.T, what string, f *Fabric, lost int, waiting map[int]int, bytes map[int]int) {
	t.Helper()
	for p := range f.Ports() {
		equal(t, fmt.Sprint(what, ": Waiting at ", p), f.Waiting(p), waiting[p])
	}
	for h := range api.MaxHosts {
		equal(t, fmt.Sprint(what, ": Bytes for ", h), f.Bytes(h), bytes[h])
	}
	equal(t, what+": Lost", f.Lost(), lost)
}

// outside are numbers of which there is none, where there are so many.
func outside(count int) []int {
	return []int{math.MinInt, -1 << 32, -count, -2, -1, count, count + 1, count + 8, 1 << 32, 1<<32 + 1, math.MaxInt}
}

func TestP151New(t *testing.T) {
	for hosts := -2; hosts <= 20; hosts++ {
		for spines := -2; spines <= 12; spines++ {
			for _, trim := range []bool{false, true} {
				net, _ := topo.New(hosts, spines)
				f, e := New(hosts, spines, 100, 3, trim)
				if net == nil {
					equal(t, "error", e, api.ErrArg)
					equal(t, "beside an error", f, nil)
					continue
				}
				equal(t, "error", e, api.OK)
				equal(t, "Ports", f.Ports(), net.Ports())
				equal(t, "Empty", f.Empty(), true)
				stands(t, "an empty one", f, 0, nil, nil)
				for p := range f.Ports() {
					rests(t, f, 0, p)
					equal(t, "Drop", f.Drop(p, 0), api.ErrNone)
					equal(t, "Double", f.Double(p, 0), api.ErrNone)
				}
				for h := range hosts {
					takes(t, f, h)
				}
			}
		}
	}
}

func TestP151NewRoom(t *testing.T) {
	for _, n := range []int{math.MinInt, -1 << 32, -1, 1<<30 + 1, 1 << 32, 1 << 40, math.MaxInt} {
		for _, c := range [][4]int{{2, 1, n, 0}, {2, 1, 0, n}, {8, 4, n, n}, {n, 1, 0, 0}, {2, n, 0, 0}, {n, n, n, n}} {
			f, e := New(c[0], c[1], c[2], c[3], true)
			equal(t, "error", e, api.ErrArg)
			equal(t, "beside an error", f, nil)
		}
	}
	for _, n := range []int{0, 1, 26, 1<<30 - 1, 1 << 30} {
		for _, c := range []int{0, 1, 1 << 30} {
			equal(t, "Empty", made(t, 8, 4, n, c, false).Empty(), true)
		}
	}
}

// TestP151Room: each port has that room, so many credits, and trims or doesn't.
func TestP151Room(t *testing.T) {
	f := made(t, 8, 2, 26+9, 2, false)
	g := made(t, 8, 2, 26+9, 0, true)
	for h := range 8 {
		dst := 7 - h
		sends(t, f, h, data(h, dst, 10, 1), 0, port.Dropped)
		sends(t, f, h, data(h, dst, 9, 1), 0, port.Queued)
		sends(t, f, h, data(h, dst, 0, 1), 0, port.Dropped)
		sends(t, f, h, small(api.FAck, h, dst, 1), 0, port.Dropped)
		sends(t, f, h, small(api.FCredit, h, dst, 1), 0, port.Queued)
		sends(t, f, h, small(api.FCredit, h, dst, 1), 0, port.Queued)
		sends(t, f, h, small(api.FCredit, h, dst, 1), 0, port.Dropped)
		equal(t, "Waiting", f.Waiting(h), 3)

		sends(t, g, h, data(h, dst, 10, 1), 0, port.Trimmed)
		sends(t, g, h, data(h, dst, 9, 1), 0, port.Dropped)
		sends(t, g, h, small(api.FAck, h, dst, 1), 0, port.Dropped)
		sends(t, g, h, small(api.FCredit, h, dst, 1), 0, port.Dropped)
		equal(t, "Waiting", g.Waiting(h), 1)
		equal(t, "Bytes", g.Bytes(dst), 0)
	}
	equal(t, "Lost", f.Lost(), 8*4)
	equal(t, "Lost of one that trims", g.Lost(), 8*3)
}

// TestP151Send: whom there isn't, and what may not be.
func TestP151Send(t *testing.T) {
	refused := func(f *Fabric, host int, frame api.Frame) {
		t.Helper()
		for _, path := range []int{math.MinInt, -1, 0, 1, math.MaxInt} {
			done, e := f.Send(host, frame, path)
			equal(t, "error", e, api.ErrArg)
			equal(t, "beside an error", done, 0)
		}
	}
	for hosts := 2; hosts <= 8; hosts++ {
		f := made(t, hosts, 1, 1000, 3, true)
		for _, none := range outside(hosts) {
			refused(f, none, data(0, 1, 5, 1))
			refused(f, 0, data(0, none, 5, 1))
			refused(f, none, data(0, none, 5, 1))
		}
		for h := range hosts {
			for kind := 1; kind <= api.FKinds; kind++ {
				refused(f, h, small(kind, 0, h, 1))
			}
		}
		equal(t, "Empty", f.Empty(), true)
		stands(t, "nothing changed", f, 0, nil, nil)
	}
}

// TestP151Check: each frame that 10 refuses, and those at the edges that it takes.
func TestP151Check(t *testing.T) {
	f := made(t, 8, 1, 1<<20, 100, false)
	good, bad := 0, 0
	for _, n := range []int{math.MinInt, -1 << 32, -1, 0, 1, 7, 8, 12, 13, 1500, 1501, 1 << 30, 1<<30 + 1, 1 << 32, 1 << 60, math.MaxInt} {
		for field := range 8 {
			x := small(api.FAck, 5, 1, 1)
			*[]*int{&x.Kind, &x.Src, &x.Dst, &x.Prio, &x.Off, &x.Len, &x.Total, &x.Num}[field] = n
			most := []int{12, 7, 7, 7, 1 << 30, 1500, 1 << 30, 1 << 30}[field]
			least := []int{1, 0, 0, 0, 0, 0, 0, 0}[field]
			want := api.OK
			if n < least || n > most || x.Dst == 0 {
				want = api.ErrArg
				bad++
			} else {
				good++
			}
			_, e := f.Send(0, x, 0)
			equal(t, "Send of "+told(x), e, want)
		}
	}
	equal(t, "what was sent", f.Waiting(0), good)
	equal(t, "what was not", f.Lost(), 0)
	if good < 20 || bad < 20 {
		t.Error(good, bad)
	}
	for k, change := range []func(x *api.Frame){
		func(x *api.Frame) { x.Len = 4 },
		func(x *api.Frame) { x.Data = x.Data[:4] },
		func(x *api.Frame) { x.Data = nil },
		func(x *api.Frame) { x.Msg = 1<<60 + 1 },
		func(x *api.Frame) { x.Total = x.Off + 4 },
		func(x *api.Frame) { x.Kind = api.FAck },
		func(x *api.Frame) { x.Kind = api.FCredit },
		func(x *api.Frame) { x.Kind, x.Data, x.Total = api.FHeader, nil, x.Off+4 },
	} {
		x := data(0, 1, 5, 1)
		change(&x)
		_, e := f.Send(0, x, 0)
		equal(t, fmt.Sprint("change ", k), e, api.ErrArg)
	}
	equal(t, "nothing changed", f.Waiting(0), good)
}

// TestP151Src: a host may send what another one is named in as its Src, whether there is one or not.
func TestP151Src(t *testing.T) {
	f := made(t, 2, 1, 1000, 3, true)
	x, y := data(1, 1, 5, 1), data(7, 1, 5, 2)
	sends(t, f, 0, x, 0, port.Queued)
	sends(t, f, 0, y, 0, port.Queued)
	serves(t, f, 0, 0, 0, 3, 3)
	takes(t, f, 1, x, y)
}

// TestP152Example: the chapter's.
func TestP152Example(t *testing.T) {
	f := made(t, 2, 1, 100, 1, false)
	x := data(0, 1, 10, 1)
	sends(t, f, 0, x, 0, port.Queued)
	equal(t, "Empty", f.Empty(), false)
	serves(t, f, 0, 0)
	stands(t, "half-way", f, 0, map[int]int{3: 1}, map[int]int{1: 10})
	equal(t, "Empty", f.Empty(), false)
	serves(t, f, 0, 3)
	stands(t, "it arrived", f, 0, nil, nil)
	equal(t, "Empty", f.Empty(), false)
	takes(t, f, 1, x)
	equal(t, "Empty", f.Empty(), true)
}

// TestP152Told: ways port by port, as they are said.
func TestP152Told(t *testing.T) {
	// Ports: 0 to 3 up, 4 to 7 down; l0-s0 to l0-s2 8 to 10, l1-s0 to l1-s2 11 to 13; s0-l0 14, s0-l1 15, .. s2-l1 19.
	for _, c := range []struct {
		src, dst, path int
		way            []int
	}{
		{0, 1, 2, []int{0, 5}},
		{3, 2, -5, []int{3, 6}},
		{0, 2, 0, []int{0, 8, 15, 6}},
		{0, 3, 4, []int{0, 9, 17, 7}},
		{1, 3, -1, []int{1, 10, 19, 7}},
		{2, 0, -3, []int{2, 11, 14, 4}},
		{3, 1, 11, []int{3, 13, 18, 5}},
	} {
		f := made(t, 4, 3, 100, 1, true)
		for n, x := range []api.Frame{data(c.src, c.dst, 40, 1), small(api.FCredit, c.src, c.dst, 2), small(api.FAck, c.src, c.dst, 3)} {
			sends(t, f, c.src, x, c.path, port.Queued)
			for _, p := range c.way {
				stands(t, "on its way", f, 0, map[int]int{p: 1}, map[int]int{c.dst: x.Len})
				for q := range f.Ports() {
					if q != p {
						rests(t, f, 4*n, q)
					}
				}
				frames(t, "not yet", f.Arrived(c.dst))
				serves(t, f, 4*n, p)
			}
			stands(t, "at its end", f, 0, nil, nil)
			takes(t, f, c.dst, x)
			equal(t, "Empty", f.Empty(), true)
		}
	}
}

func TestP152None(t *testing.T) {
	f := made(t, 4, 1, 100, 1, true)
	sends(t, f, 0, data(0, 3, 10, 1), 0, port.Queued)
	for _, p := range outside(12) {
		for _, now := range []int{math.MinInt, 0, math.MaxInt} {
			moved, e := f.Serve(p, now)
			equal(t, "Serve: error", e, api.ErrNone)
			equal(t, "Serve", moved, false)
		}
	}
	serves(t, f, 0, 0, 8, 11, 7)
	for _, h := range outside(4) {
		frames(t, "Arrived", f.Arrived(h))
		x, ok := f.Take(h)
		equal(t, "Take", ok, false)
		equal(t, "Take", told(x), told(api.Frame{}))
		equal(t, "Bytes", f.Bytes(h), 0)
	}
	takes(t, f, 3, data(0, 3, 10, 1))
}

// TestP152Order: what a port serves is the first of its highest line.
func TestP152Order(t *testing.T) {
	f := made(t, 2, 1, 1000, 5, true)
	var low, high []api.Frame
	for n := range 6 {
		x := data(0, 1, 5+n, n)
		x.Prio = 2 + n%2
		sends(t, f, 0, x, n, port.Queued)
		if x.Prio == 3 {
			high = append(high, x)
		} else {
			low = append(low, x)
		}
	}
	serves(t, f, 0, 0, 0, 0, 0, 0, 0, 3, 3, 3, 3)
	frames(t, "Arrived", f.Arrived(1), slices.Concat(high, low[:1])...)
	late := small(api.FAck, 0, 1, 9)
	late.Prio = 7
	sends(t, f, 0, late, 0, port.Queued)
	serves(t, f, 0, 0, 3, 3, 3)
	rests(t, f, 0, 0, 3)
	takes(t, f, 1, slices.Concat(high, low[:1], []api.Frame{late}, low[1:])...)
}

// TestP152Credits: each port lets one go in 4 ticks, by its own time, which never goes back.
func TestP152Credits(t *testing.T) {
	f := made(t, 2, 1, 1000, 5, true)
	a, b, c := small(api.FCredit, 0, 1, 1), small(api.FCredit, 0, 1, 2), small(api.FCredit, 0, 1, 3)
	for _, x := range []api.Frame{a, b, c} {
		sends(t, f, 0, x, 0, port.Queued)
	}
	serves(t, f, 10, 0)
	rests(t, f, 13, 0)
	rests(t, f, 0, 0)
	serves(t, f, 14, 0)
	serves(t, f, 2, 3) // its own time is 2
	rests(t, f, 5, 3)
	rests(t, f, 0, 0)
	serves(t, f, 6, 3)
	rests(t, f, 17, 0)
	serves(t, f, 18, 0)
	rests(t, f, 9, 3)
	serves(t, f, 10, 3)
	takes(t, f, 1, a, b, c)

	// A port that was served while it had nothing knows the time, too.
	rests(t, f, 50, 2)
	x, y := small(api.FCredit, 1, 0, 4), small(api.FCredit, 1, 0, 5)
	sends(t, f, 1, x, 0, port.Queued)
	sends(t, f, 1, y, 0, port.Queued)
	serves(t, f, 20, 1)
	serves(t, f, 24, 1)
	serves(t, f, 30, 2)
	rests(t, f, 53, 2)
	serves(t, f, 54, 2)
	takes(t, f, 0, x, y)
}

// TestP152Full: what finds no room on its way is dropped or trimmed there; it was moved all the same.
func TestP152Full(t *testing.T) {
	a, b, c := data(0, 1, 40, 1), data(0, 1, 50, 2), data(0, 1, 60, 3)
	f := made(t, 2, 1, 100, 1, true)
	for _, x := range []api.Frame{a, b, c} {
		sends(t, f, 0, x, 0, port.Queued)
		serves(t, f, 0, 0)
	}
	stands(t, "one, a head, and one that is lost", f, 1, map[int]int{3: 2}, map[int]int{1: 40})
	serves(t, f, 0, 3, 3)
	takes(t, f, 1, head(b), a)

	g := made(t, 2, 1, 100, 1, false)
	for _, x := range []api.Frame{a, b, c} {
		sends(t, g, 0, x, 0, port.Queued)
		serves(t, g, 0, 0)
	}
	stands(t, "one, and two that are lost", g, 2, map[int]int{3: 1}, map[int]int{1: 40})
	p, q := small(api.FCredit, 0, 1, 4), small(api.FCredit, 0, 1, 5)
	sends(t, g, 0, p, 0, port.Queued)
	serves(t, g, 0, 0)
	sends(t, g, 0, q, 0, port.Queued)
	serves(t, g, 4, 0)
	stands(t, "a credit is lost, too", g, 3, map[int]int{3: 2}, map[int]int{1: 40})
	serves(t, g, 0, 3, 3)
	rests(t, g, 4, 3)
	takes(t, g, 1, p, a)
	equal(t, "Empty", g.Empty(), true)
}

// TestP152Arrived: of each host its own, in order, while some are taken and others come.
func TestP152Arrived(t *testing.T) {
	f := made(t, 6, 2, 10000, 5, true)
	var want [6][]api.Frame
	n := 0
	for round := range 200 {
		for src := range 6 {
			dst := (src + 1 + round%5) % 6
			x := data(src, dst, n%7, n)
			n++
			sends(t, f, src, x, round, port.Queued)
			for range 4 {
				for p := range f.Ports() {
					f.Serve(p, 0)
				}
			}
			want[dst] = append(want[dst], x)
		}
		// More come than go at first; then more go.
		for h := range 6 {
			for range round / 50 * 2 / 3 * (round % 3) {
				x, ok := f.Take(h)
				equal(t, "Take", ok, len(want[h]) > 0)
				if ok {
					equal(t, "Take", told(x), told(want[h][0]))
					want[h] = want[h][1:]
				}
			}
			frames(t, "Arrived", f.Arrived(h), want[h]...)
		}
	}
	for h := range 6 {
		equal(t, "Empty", f.Empty(), false)
		takes(t, f, h, want[h]...)
	}
	equal(t, "Empty", f.Empty(), true)
}

func TestP153Drop(t *testing.T) {
	f := made(t, 2, 1, 1000, 5, true)
	a, b, c, d := data(0, 1, 10, 1), small(api.FAck, 0, 1, 2), data(0, 1, 20, 3), small(api.FCredit, 0, 1, 4)
	for _, x := range []api.Frame{a, b, c, d} {
		sends(t, f, 0, x, 0, port.Queued)
	}
	for _, k := range outside(4) {
		equal(t, "Drop", f.Drop(0, k), api.ErrNone)
		equal(t, "Double", f.Double(0, k), api.ErrNone)
	}
	for _, p := range outside(6) {
		equal(t, "Drop", f.Drop(p, 0), api.ErrNone)
		equal(t, "Double", f.Double(p, 0), api.ErrNone)
		equal(t, "Waiting", f.Waiting(p), 0)
	}
	for p := 1; p < 6; p++ {
		equal(t, "Drop", f.Drop(p, 0), api.ErrNone)
		equal(t, "Double", f.Double(p, 0), api.ErrNone)
	}
	stands(t, "nothing changed", f, 0, map[int]int{0: 4}, map[int]int{1: 30})
	equal(t, "Drop of the last", f.Drop(0, 3), api.OK)
	stands(t, "a credit", f, 1, map[int]int{0: 3}, map[int]int{1: 30})
	equal(t, "Drop of the first", f.Drop(0, 0), api.OK)
	stands(t, "data", f, 2, map[int]int{0: 2}, map[int]int{1: 20})
	serves(t, f, 0, 0, 0)
	equal(t, "Drop on its way", f.Drop(3, 1), api.OK)
	stands(t, "data on its way", f, 3, map[int]int{3: 1}, nil)
	serves(t, f, 0, 3)
	equal(t, "what arrived waits no more", f.Drop(3, 0), api.ErrNone)
	takes(t, f, 1, b)
	stands(t, "all", f, 3, nil, nil)
	equal(t, "Empty", f.Empty(), true)
}

func TestP153Double(t *testing.T) {
	f := made(t, 4, 2, 1000, 5, true)
	a, b, c := data(0, 2, 10, 1), data(0, 1, 20, 2), small(api.FCredit, 0, 2, 3)
	for n, x := range []api.Frame{a, b, c} {
		sends(t, f, 0, x, n+1, port.Queued)
	}
	equal(t, "Double", f.Double(0, 0), api.OK)
	equal(t, "Double", f.Double(0, 3), api.OK)
	stands(t, "doubled", f, 0, map[int]int{0: 5}, map[int]int{1: 20, 2: 20})
	serves(t, f, 0, 0, 0, 0, 0)
	serves(t, f, 4, 0)
	// a goes by path 1, c by path 3: both to spine 1, port 9; the doubled ones, too.
	stands(t, "on its way", f, 0, map[int]int{5: 1, 9: 4}, map[int]int{1: 20, 2: 20})
	equal(t, "Double on its way", f.Double(9, 1), api.OK)
	stands(t, "doubled", f, 0, map[int]int{5: 1, 9: 5}, map[int]int{1: 20, 2: 30})
	for _, p := range []int{9, 15, 6} {
		for now := range 13 {
			f.Serve(p, now)
		}
	}
	serves(t, f, 0, 5)
	takes(t, f, 1, b)
	takes(t, f, 2, c, a, a, a, c)
	stands(t, "all", f, 0, nil, nil)
}

// TestP153DoubleNoRoom: one that is dropped is lost; one that is trimmed is not.
func TestP153DoubleNoRoom(t *testing.T) {
	f := made(t, 2, 1, 26+40+26, 1, true)
	a, c := data(0, 1, 40, 1), small(api.FCredit, 0, 1, 2)
	sends(t, f, 0, a, 0, port.Queued)
	sends(t, f, 0, c, 0, port.Queued)
	equal(t, "Double", f.Double(0, 0), api.OK)
	stands(t, "trimmed", f, 0, map[int]int{0: 3}, map[int]int{1: 40})
	for k := range 3 {
		equal(t, "Double", f.Double(0, k), api.OK)
		stands(t, "dropped", f, k+1, map[int]int{0: 3}, map[int]int{1: 40})
	}
	serves(t, f, 0, 0, 0, 0)
	serves(t, f, 0, 3, 3, 3)
	takes(t, f, 1, c, head(a), a)

	g := made(t, 2, 1, 26+40+26, 1, false)
	sends(t, g, 0, a, 0, port.Queued)
	equal(t, "Double", g.Double(0, 0), api.OK)
	stands(t, "dropped", g, 1, map[int]int{0: 1}, map[int]int{1: 40})
}

// TestP153Bytes: data alone, and at ports alone; a Len of other Kinds is not of data that is here.
func TestP153Bytes(t *testing.T) {
	f := made(t, 6, 1, 10000, 100, false)
	want := map[int]int{}
	for kind := 1; kind <= api.FKinds; kind++ {
		for dst := 1; dst < 6; dst++ {
			x := small(kind, 0, dst, kind)
			x.Len = 100 + dst
			if kind == api.FData {
				x = data(0, dst, 100+dst, kind)
				want[dst] += 100 + dst
			}
			sends(t, f, 0, x, 0, port.Queued)
		}
	}
	for src := 1; src < 6; src++ {
		sends(t, f, src, data(src, (src+1)%6, 1500, 1), 0, port.Queued)
		want[(src+1)%6] += 1500
	}
	equal(t, "Waiting", f.Waiting(0), 60)
	for now := 0; f.Waiting(0) > 0; now++ {
		for h := range 6 {
			equal(t, "Bytes", f.Bytes(h), want[h])
		}
		f.Serve(0, now)
	}
	for h := range 6 {
		equal(t, "Bytes", f.Bytes(h), want[h])
		equal(t, "Empty", f.Empty(), false)
	}
	for h := range 6 {
		for _, x := range all(f, 400)[h] {
			if x.Kind == api.FData {
				want[h] -= x.Len
			}
		}
		equal(t, "Bytes", f.Bytes(h), 0)
		equal(t, "what arrived", want[h], 0)
	}
}

// all serves all ports for so many ticks, and tells what arrived by then, by hosts.
func all(f *Fabric, ticks int) [][]api.Frame {
	for now := range ticks {
		for p := range f.Ports() {
			f.Serve(p, now)
		}
	}
	var hosts [][]api.Frame
	for h := range api.MaxHosts {
		hosts = append(hosts, f.Arrived(h))
	}
	return hosts
}

// TestP153Nil: of a fabric that New did not make, as of none.
func TestP153Nil(t *testing.T) {
	for _, f := range []*Fabric{nil, {}} {
		for _, n := range []int{math.MinInt, -1, 0, 1, 5, math.MaxInt} {
			for _, x := range []api.Frame{{}, data(0, 1, 5, 1), small(api.FCredit, 1, 0, 2)} {
				done, e := f.Send(n, x, n)
				equal(t, "Send: error", e, api.ErrArg)
				equal(t, "Send", done, 0)
			}
			moved, e := f.Serve(n, n)
			equal(t, "Serve: error", e, api.ErrNone)
			equal(t, "Serve", moved, false)
			frames(t, "Arrived", f.Arrived(n))
			x, ok := f.Take(n)
			equal(t, "Take", ok, false)
			equal(t, "Take", told(x), told(api.Frame{}))
			equal(t, "Drop", f.Drop(n, n), api.ErrNone)
			equal(t, "Double", f.Double(n, n), api.ErrNone)
			equal(t, "Waiting", f.Waiting(n), 0)
			equal(t, "Bytes", f.Bytes(n), 0)
		}
		equal(t, "Ports", f.Ports(), 0)
		equal(t, "Lost", f.Lost(), 0)
		equal(t, "Empty", f.Empty(), true)
	}
}
