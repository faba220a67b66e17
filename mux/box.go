package mux

import (
	"mizzen/api"
)

// mostRoom is the greatest room of a box.
const mostRoom = 10000

// Box is where things wait: a channel that nobody waits at. What is in it is told by where it stands, so that a box's
// room costs little while it is empty, and a T may be greater than a channel's elements may (64 kB).
type Box[T any] struct {
	c chan *T
}

// New is an empty one.
func New[T any](room int) (*Box[T], api.Errno) {
	if room < 0 || room > mostRoom {
		return nil, api.ErrArg
	}
	return &Box[T]{c: make(chan *T, room)}, api.OK
}

// channel is where its things wait; of a nil Box it is nil, and so never ready.
func (b *Box[T]) channel() chan *T {
	if b == nil {
		return nil
	}
	return b.c
}

// Offer puts one in.
func (b *Box[T]) Offer(v T) bool {
	select {
	case b.channel() <- &v:
		return true
	default:
		return false
	}
}

// Take takes the first one.
func (b *Box[T]) Take() (T, bool) {
	select {
	case v := <-b.channel():
		return *v, true
	default:
		var zero T
		return zero, false
	}
}

// Drain takes more.
func (b *Box[T]) Drain(most int) []T {
	var list []T
	for range most {
		v, ok := b.Take()
		if !ok {
			break
		}
		list = append(list, v)
	}
	return list
}

// Len is how many are in it.
func (b *Box[T]) Len() int { return len(b.channel()) }

// First takes of the first box that has something.
func First[T any](l ...*Box[T]) (from int, v T, ok bool) {
	for i, b := range l {
		if v, ok = b.Take(); ok {
			return i, v, true
		}
	}
	return -1, v, false
}
