package engine

import (
	"bytes"
	"slices"
	"testing"

	"mizzen/api"
)

// plain is a host that says all that is pending again every Timeout ticks, without asking, till it is acked: the least that holds the bag and the end.
type plain struct {
	none
	c     api.Config
	me    int
	sent  []sending
	came  map[[2]int][]byte // by source and id; nil again of those that were delivered
	whole []api.Message
	ready []api.Frame
	now   int
}

type sending struct {
	dst   int
	data  []byte
	state int
}

func newPlain(t *testing.T, c api.Config, me int) *plain {
	t.Helper()
	equal(t, "CheckHost", CheckHost(c, c.Engine, me), api.OK)
	return &plain{c: c, me: me, came: map[[2]int][]byte{}}
}

func (h *plain) Submit(dst int, data []byte) (uint64, api.Errno) {
	if !IsOther(h.c, h.me, dst) {
		return 0, api.ErrArg
	}
	h.sent = append(h.sent, sending{dst, bytes.Clone(data), api.SPending})
	h.say(len(h.sent) - 1)
	return uint64(len(h.sent)), api.OK
}

// say lets all pieces of a message wait to be sent.
func (h *plain) say(i int) {
	m := h.sent[i]
	for off := 0; off < max(1, len(m.data)); off += h.c.MTU {
		part := m.data[off:min(off+h.c.MTU, len(m.data))]
		h.ready = append(h.ready, api.Frame{Kind: api.FData, Src: h.me, Dst: m.dst, Msg: uint64(i + 1), Off: off, Len: len(part), Total: len(m.data), Data: bytes.Clone(part)})
	}
}

func (h *plain) In(f api.Frame) {
	if !Takes(h.c, h.me, f) {
		return
	}
	if f.Kind == api.FAck {
		h.sent[f.Msg-1].state = api.SAcked
		return
	}
	key := [2]int{f.Src, int(f.Msg)}
	had, known := h.came[key]
	// Pieces come in order here: what is not the next one was doubled.
	if len(had) == f.Off && (had != nil || !known) {
		h.came[key] = append(append([]byte{}, had...), f.Data...)
	}
	if had = h.came[key]; had != nil && len(had) == f.Total {
		h.whole = append(h.whole, api.Message{From: f.Src, ID: f.Msg, Data: had})
		h.came[key] = nil
	}
	if h.came[key] == nil {
		h.ready = append(h.ready, api.Frame{Kind: api.FAck, Src: h.me, Dst: f.Src, Msg: f.Msg})
	}
}

func (h *plain) Out() (api.Frame, bool) {
	if len(h.ready) == 0 {
		return api.Frame{}, false
	}
	f := h.ready[0]
	h.ready = h.ready[1:]
	return f, true
}

func (h *plain) Tick() {
	h.now++
	if h.now%h.c.Timeout > 0 {
		return
	}
	for i, m := range h.sent {
		if m.state == api.SPending {
			h.say(i)
		}
	}
}

func (h *plain) Idle() bool {
	pending := slices.ContainsFunc(h.sent, func(m sending) bool { return m.state == api.SPending })
	return !pending && len(h.ready) == 0
}

// TestP215Plain: whatever of the first turn is lost, within Bound two plain hosts have told each other all, byte for byte, once, and are idle.
func TestP215Plain(t *testing.T) {
	totals := []int{0, 1, 19, 20, 21, 400, 20000}
	for _, kind := range engines {
		c := least(kind)
		a, b := newPlain(t, c, 0), newPlain(t, c, 1)
		for i, total := range totals {
			a.Submit(1, bytes.Repeat([]byte{byte(i)}, total))
			b.Submit(0, bytes.Repeat([]byte{byte(i + 100)}, total))
		}
		a.ready = nil
		rounds := Bound(c, append(totals, totals...), len(b.ready))
		done := Pump(a, b, rounds)
		// The messages of a go first when its Timeout has gone by, and are acked in the same turn.
		equal(t, "rounds", done, c.Timeout+1)
		for i, total := range totals {
			for h, first := range map[*plain]int{a: 100, b: 0} {
				equal(t, "state", h.sent[i].state, api.SAcked)
				equal(t, "delivered", string(h.whole[i].Data), string(bytes.Repeat([]byte{byte(i + first)}, total)))
				equal(t, "id", h.whole[i].ID, uint64(i+1))
			}
		}
		equal(t, "delivered to a", len(a.whole), len(totals))
		equal(t, "delivered to b", len(b.whole), len(totals))
		equal(t, "rounds when all are idle", Pump[Host, *plain](a, b, rounds), 0)
	}
}
