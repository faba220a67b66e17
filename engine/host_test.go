package engine

import (
	"strconv"
	"testing"

	"mizzen/api"
)

// TestP212CheckHost: a host is of its config's engine, and one of its hosts.
func TestP212CheckHost(t *testing.T) {
	for _, kind := range engines {
		for _, c := range []api.Config{least(kind), most(kind)} {
			for me := range c.Hosts {
				for _, other := range engines {
					equal(t, "CheckHost", CheckHost(c, other, me) == api.OK, other == kind)
				}
			}
			for _, me := range append([]int{c.Hosts, c.Hosts + 1}, far...) {
				equal(t, "CheckHost of "+strconv.Itoa(me), CheckHost(c, kind, me), api.ErrArg)
			}
			for _, other := range append([]int{0, 4}, far...) {
				d := c
				d.Engine = other
				equal(t, "CheckHost of no engine", CheckHost(d, other, 0), api.ErrArg)
			}
			c.MTU = 19
			equal(t, "CheckHost of a config that may not be", CheckHost(c, kind, 0), api.ErrArg)
		}
	}
}

// TestP212IsOther: another host, of those that there are.
func TestP212IsOther(t *testing.T) {
	for hosts := 2; hosts <= 8; hosts++ {
		c := least(api.Homa)
		c.Hosts = hosts
		for me := range hosts {
			for host := range hosts {
				equal(t, "IsOther", IsOther(c, me, host), me != host)
			}
			for _, host := range append([]int{hosts, hosts + 1}, far...) {
				equal(t, "IsOther of none", IsOther(c, me, host), false)
			}
		}
	}
}

// data is an FData frame of two bytes.
func data(src, dst int) api.Frame {
	return api.Frame{Kind: api.FData, Src: src, Dst: dst, Prio: 3, Msg: 4, Off: 5, Len: 2, Total: 9, Num: 6, Data: []byte("ab")}
}

// TestP213Takes: a frame of another host, for this one.
func TestP213Takes(t *testing.T) {
	c := least(api.Homa)
	c.Hosts = 4
	for me := range c.Hosts {
		for src := range 8 {
			for dst := range 8 {
				equal(t, "Takes", Takes(c, me, data(src, dst)), dst == me && src != me && src < 4)
				ack := api.Frame{Kind: api.FAck, Src: src, Dst: dst}
				equal(t, "Takes of an FAck", Takes(c, me, ack), dst == me && src != me && src < 4)
			}
		}
	}
}

// TestP213Bad: frames that 10's Check refuses.
func TestP213Bad(t *testing.T) {
	c := least(api.NDP)
	equal(t, "Takes", Takes(c, 1, data(0, 1)), true)
	equal(t, "Takes of an empty frame", Takes(c, 1, api.Frame{}), false)
	for what, turn := range map[string]func(f *api.Frame){
		"Kind 0":    func(f *api.Frame) { f.Kind = 0 },
		"Kind 13":   func(f *api.Frame) { f.Kind = 13 },
		"Src":       func(f *api.Frame) { f.Src = -1 },
		"Prio":      func(f *api.Frame) { f.Prio = 8 },
		"Msg":       func(f *api.Frame) { f.Msg = 1<<60 + 1 },
		"Off":       func(f *api.Frame) { f.Off = -1 },
		"Total":     func(f *api.Frame) { f.Total = 6 },
		"Len":       func(f *api.Frame) { f.Len = 3 },
		"Num":       func(f *api.Frame) { f.Num = -1 },
		"less Data": func(f *api.Frame) { f.Data = nil },
		"FAck Data": func(f *api.Frame) { f.Kind = api.FAck },
	} {
		f := data(0, 1)
		turn(&f)
		equal(t, "Takes of a bad frame: "+what, Takes(c, 1, f), false)
	}
	// A host looks at it, even if no host may send so much: MTU is a rule for who sends.
	f := data(0, 1)
	f.Len, f.Total, f.Data = 21, 30, make([]byte, 21)
	equal(t, "Takes of more than MTU bytes", Takes(c, 1, f), true)
}
