package fabric

import (
	"fmt"
	"testing"

	"mizzen/api"
	"mizzen/port"
	"mizzen/topo"
	"mizzen/wire"
)

// draws is a rule for numbers.
type draws uint64

func (d *draws) below(n int) int {
	*d = *d*6364136223846793005 + 1442695040888963407
	return int(uint64(*d)>>33) % n
}

// plain is a fabric as the chapter's sentences have it: 13's ports and 14's net, and all that is told gone through anew.
type plain struct {
	hosts   int
	net     *topo.Net
	ports   []*port.Port
	arrived [][]api.Frame
	lost    int
	now     int
}

func plainly(hosts, spines, room, credits int, trim bool) *plain {
	p := &plain{hosts: hosts, arrived: make([][]api.Frame, hosts)}
	p.net, _ = topo.New(hosts, spines)
	for range p.net.Ports() {
		one, _ := port.New(room, credits, trim)
		p.ports = append(p.ports, one)
	}
	return p
}

func (p *plain) put(number int, i port.Item) int {
	done := p.ports[number].Put(i)
	if done == port.Dropped {
		p.lost++
	}
	return done
}

func (p *plain) send(host int, x api.Frame, path int) (int, api.Errno) {
	is := func(h int) bool { return h >= 0 && h < p.hosts }
	if !is(host) || wire.Check(x) != api.OK || !is(x.Dst) || x.Dst == host {
		return 0, api.ErrArg
	}
	return p.put(p.net.Up(host), port.Item{Frame: x, Path: path}), api.OK
}

func (p *plain) serve(number, now int) (bool, api.Errno) {
	if number < 0 || number >= len(p.ports) {
		return false, api.ErrNone
	}
	i, ok := p.ports[number].Take(now)
	if !ok {
		return false, api.OK
	}
	if next, arrives := p.net.Next(number, i.Frame.Dst, i.Path); !arrives {
		p.put(next, i)
	} else {
		// A leaf's way down: behind the hosts' ways up, by hosts.
		h := number - p.hosts
		p.arrived[h] = append(p.arrived[h], i.Frame)
	}
	return true, api.OK
}

func (p *plain) take(host int) (api.Frame, bool) {
	if host < 0 || host >= p.hosts || len(p.arrived[host]) == 0 {
		return api.Frame{}, false
	}
	x := p.arrived[host][0]
	p.arrived[host] = p.arrived[host][1:]
	return x, true
}

func (p *plain) at(number, k int) bool {
	return number >= 0 && number < len(p.ports) && k >= 0 && k < len(p.ports[number].Waiting())
}

func (p *plain) drop(number, k int) api.Errno {
	if !p.at(number, k) {
		return api.ErrNone
	}
	p.ports[number].Drop(k)
	p.lost++
	return api.OK
}

func (p *plain) double(number, k int) api.Errno {
	if !p.at(number, k) {
		return api.ErrNone
	}
	if !p.ports[number].Double(k) {
		p.lost++
	}
	return api.OK
}

// bytes is the sum for a host, from what waits.
func (p *plain) bytes(host int) int {
	sum := 0
	for _, one := range p.ports {
		for _, i := range one.Waiting() {
			if i.Frame.Kind == api.FData && i.Frame.Dst == host {
				sum += i.Frame.Len
			}
		}
	}
	return sum
}

// some is a frame with a drawn Kind, ends and size; now and then one that may not be.
func some(d *draws, hosts, n int) api.Frame {
	src, dst := d.below(hosts), d.below(hosts+1)
	x := data(src, dst, d.below(40), n)
	switch d.below(5) {
	case 0:
		x = small(api.FCredit, src, dst, n)
	case 1:
		x = small(1+d.below(12), src, dst, n)
	}
	x.Prio = d.below(8)
	if d.below(20) == 0 {
		x.Len++
	}
	return x
}

// step does one thing with both; of ten, so many send.
func step(t *testing.T, d *draws, f *Fabric, p *plain, sending, n int) {
	t.Helper()
	number := d.below(len(p.ports)+2) - 1
	k := d.below(6) - 1
	switch c := d.below(10); {
	case c < sending:
		x, host, path := some(d, p.hosts, n), d.below(p.hosts+2)-1, d.below(40)-20
		done, e := f.Send(host, x, path)
		wantDone, wantE := p.send(host, x, path)
		equal(t, "Send", fmt.Sprint(done, e), fmt.Sprint(wantDone, wantE))
	case c == 9:
		equal(t, "Drop", f.Drop(number, k), p.drop(number, k))
	case c == 8:
		equal(t, "Double", f.Double(number, k), p.double(number, k))
	case c == 7:
		x, ok := f.Take(k)
		wantX, wantOK := p.take(k)
		equal(t, "Take", fmt.Sprint(told(x), ok), fmt.Sprint(told(wantX), wantOK))
	default:
		p.now += d.below(2)
		for number := -1; number <= len(p.ports); number += 1 + d.below(3) {
			now := p.now - d.below(3)
			moved, e := f.Serve(number, now)
			wantMoved, wantE := p.serve(number, now)
			equal(t, "Serve", fmt.Sprint(moved, e), fmt.Sprint(wantMoved, wantE))
		}
	}
}

// alike holds all that can be told of both.
func alike(t *testing.T, f *Fabric, p *plain) {
	t.Helper()
	empty := true
	for number, one := range p.ports {
		equal(t, "Waiting", f.Waiting(number), len(one.Waiting()))
		empty = empty && len(one.Waiting()) == 0
	}
	for h := -1; h <= p.hosts; h++ {
		equal(t, "Bytes", f.Bytes(h), p.bytes(h))
		if h >= 0 && h < p.hosts {
			frames(t, "Arrived", f.Arrived(h), p.arrived[h]...)
			empty = empty && len(p.arrived[h]) == 0
		}
	}
	equal(t, "Lost", f.Lost(), p.lost)
	equal(t, "Empty", f.Empty(), empty)
}

// TestP154Steps: step by step, against a plain one.
func TestP154Steps(t *testing.T) {
	for seed, room := range []int{0, 26, 60, 200, 2000} {
		for hosts := 2; hosts <= 8; hosts += 1 + seed%2 {
			for _, trim := range []bool{false, true} {
				spines, most := 1+(seed+hosts)%4, seed%3*2
				d := draws(100*seed + hosts)
				f, p := made(t, hosts, spines, room, most, trim), plainly(hosts, spines, room, most, trim)
				for round, sending := range []int{7, 4, 6, 2, 7, 0} {
					for n := range 60 {
						step(t, &d, f, p, sending, 100*round+n)
						alike(t, f, p)
						if t.Failed() {
							t.Fatalf("hosts %d, spines %d, room %d, credits %d, trim %v, round %d, step %d", hosts, spines, room, most, trim, round, n)
						}
					}
				}
			}
		}
	}
}

// TestP154None: with room for all, nothing is lost but what is dropped, and nothing comes twice but what is doubled.
func TestP154None(t *testing.T) {
	for _, trim := range []bool{false, true} {
		f := made(t, 7, 3, 1<<30, 1<<20, trim)
		d := draws(154)
		want := map[uint64]int{}
		dropped := 0
		for n := range 2000 {
			src := d.below(7)
			x := data(src, (src+1+d.below(6))%7, d.below(50), n)
			if n%10 == 0 {
				x = small(api.FCredit, src, x.Dst, n)
			}
			sends(t, f, src, x, n, port.Queued)
			want[x.Msg]++
			number := d.below(f.Ports())
			k := f.Waiting(number) / 2
			if i, ok := f.port(number).At(k); ok && n%5 == 0 {
				if d.below(2) == 0 {
					equal(t, "Drop", f.Drop(number, k), api.OK)
					want[i.Frame.Msg]--
					dropped++
				} else {
					equal(t, "Double", f.Double(number, k), api.OK)
					want[i.Frame.Msg]++
				}
			}
			f.Serve(number, n)
		}
		got := map[uint64]int{}
		for _, l := range all(f, 3000) {
			for _, x := range l {
				got[x.Msg]++
			}
		}
		for msg, n := range want {
			equal(t, fmt.Sprint("frame ", msg), got[msg], n)
		}
		stands(t, "at the end", f, dropped, nil, nil)
	}
}

// TestP154Many: many that wait, on their way, and arrived; each step is told at once.
func TestP154Many(t *testing.T) {
	const many = 50000
	f := made(t, 4, 1, 1<<30, many, false)
	for n := range many {
		sends(t, f, 0, data(0, 3, 10, n), 0, port.Queued)
		equal(t, "Bytes", f.Bytes(3), 10*(n+1))
		equal(t, "Waiting", f.Waiting(0), n+1)
		equal(t, "Empty", f.Empty(), false)
	}
	for n := range many / 10 {
		equal(t, "Drop", f.Drop(0, many/2), api.OK)
		equal(t, "Double", f.Double(0, many/2), api.OK)
		equal(t, "Waiting", f.Waiting(0), many)
		equal(t, "Lost", f.Lost(), n+1)
	}
	for range many {
		serves(t, f, 0, 0, 8, 11, 7)
	}
	for n := range many {
		_, ok := f.Take(3)
		equal(t, "Take", ok, true)
		equal(t, "Empty", f.Empty(), n == many-1)
	}
}
