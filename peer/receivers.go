package peer

import (
	"mizzen/api"
	"mizzen/ids"
	"mizzen/reasm"
	"mizzen/table"
)

// Receivers is what one host gets.
type Receivers struct {
	most   int
	maxMsg int
	known  *shelf[*reasm.Buf]
	ended  [api.MaxHosts]*ids.Window
	ready  line[api.Message] // what was delivered, and not polled yet
}

// NewReceivers is an empty one.
func NewReceivers(most, maxMsg int) (*Receivers, api.Errno) {
	if !mayKeep(most, maxMsg) {
		return nil, api.ErrArg
	}
	r := &Receivers{most: most, maxMsg: maxMsg, known: newShelf[*reasm.Buf](most)}
	for src := range r.ended {
		r.ended[src], _ = ids.New(most)
	}
	return r, api.OK
}

// made tells whether it is one that NewReceivers made: none else has room.
func (r *Receivers) made() bool {
	return r != nil && r.most > 0
}

// has tells whether something is kept of that source.
func (r *Receivers) has(src int) bool {
	return r.made() && isHost(src)
}

// find is what came of a message: nil, which tells of no bytes, of one that is not known.
func (r *Receivers) find(src int, id uint64) (*reasm.Buf, bool) {
	if !r.made() {
		return nil, false
	}
	return r.known.get(table.Key{Peer: src, ID: id})
}

// full tells whether there is no room for a message that is not known.
func (r *Receivers) full(src int, id uint64) bool {
	if r.known.all() >= r.most {
		return true
	}
	// Each that is known needs a record when it ends, so that its room is held for it; but the mark needs none.
	w := r.ended[src]
	return id != w.Mark() && w.Len()+r.known.of(src) >= r.most
}

// buffer is where the bytes of a message go: it is known from then on.
func (r *Receivers) buffer(k table.Key, total int) (*reasm.Buf, api.Errno) {
	if buf, ok := r.known.get(k); ok {
		if buf.Total() != total {
			return nil, api.ErrBad
		}
		return buf, api.OK
	}
	if r.full(k.Peer, k.ID) {
		return nil, api.ErrFull
	}
	// Not refused: that total is not too much was looked at ahead of all else.
	buf, _ := reasm.New(total, r.maxMsg)
	r.known.put(k, buf)
	return buf, api.OK
}

// deliver ends one that is whole.
func (r *Receivers) deliver(k table.Key, data []byte) {
	r.known.drop(k)
	// There is room for its record: see full.
	r.ended[k.Peer].Done(k.ID)
	r.ready.put(api.Message{From: k.Peer, ID: k.ID, Data: data})
}

// Data takes bytes.
func (r *Receivers) Data(src int, id uint64, total, off int, data []byte) (fresh int, done bool, e api.Errno) {
	if !isHost(src) || id < 1 || id > greatest || total < 0 || off < 0 || len(data) > total-off {
		return 0, false, api.ErrArg
	}
	if !r.made() {
		return 0, false, api.ErrFull
	}
	if r.ended[src].Is(id) {
		return 0, true, api.OK
	}
	if total > r.maxMsg {
		return 0, false, api.ErrBig
	}
	k := table.Key{Peer: src, ID: id}
	buf, e := r.buffer(k, total)
	if e != api.OK {
		return 0, false, e
	}
	// Nothing is refused of one that was not known till now: it has no bytes yet.
	if fresh, e = buf.Put(off, data); e != api.OK {
		return 0, false, e
	}
	all, done := buf.Data()
	if done {
		r.deliver(k, all)
	}
	return fresh, done, api.OK
}

// Poll is the next that was delivered.
func (r *Receivers) Poll() (api.Message, bool) {
	if !r.made() {
		return api.Message{}, false
	}
	return r.ready.take()
}

// Retire ends all below one.
func (r *Receivers) Retire(src int, below uint64) int {
	if !r.has(src) {
		return 0
	}
	r.ended[src].Retire(below)
	return r.known.dropBelow(src, below)
}

// Ended tells whether one has.
func (r *Receivers) Ended(src int, id uint64) bool {
	return r.has(src) && r.ended[src].Is(id)
}

// Have is how much came.
func (r *Receivers) Have(src int, id uint64) (have, total int, ok bool) {
	buf, ok := r.find(src, id)
	return buf.Total() - buf.Left(), buf.Total(), ok
}

// Gaps is what is wanting.
func (r *Receivers) Gaps(src int, id uint64, upto, most int) []api.Range {
	buf, _ := r.find(src, id)
	return buf.Gaps(upto, most)
}

// Len is how many are known.
func (r *Receivers) Len() int {
	if !r.made() {
		return 0
	}
	return r.known.all()
}

// Waiting is how many wait to be polled.
func (r *Receivers) Waiting() int {
	if !r.made() {
		return 0
	}
	return r.ready.count
}
