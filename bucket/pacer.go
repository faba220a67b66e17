package bucket

import (
	"mizzen/api"
	"mizzen/num"
)

// Pacer lets one go each time.
type Pacer struct {
	every int
	// next is the first time at which one may go: above api.MaxTime, if there is none.
	// No latest time is kept beside it: one that was refused is always earlier than next.
	next int
}

// NewPacer is one that may go at once.
func NewPacer(every int) (*Pacer, api.Errno) {
	if every < 1 || every > mostDepth {
		return nil, api.ErrArg
	}
	return &Pacer{every: every}, api.OK
}

// Go tells whether one may go.
func (p *Pacer) Go(now int) bool {
	if p == nil {
		return false
	}
	at := num.Clamp(now, 0, api.MaxTime)
	if at < p.next {
		return false
	}
	p.next = at + p.every
	return true
}

// Next is when one may.
func (p *Pacer) Next() int {
	if p == nil {
		return api.MaxTime
	}
	return num.Min(p.next, api.MaxTime)
}
