package fabric

import (
	"bytes"

	"mizzen/api"
)

// inbox is what came to a host and was not taken yet: the frames from place first on. The places ahead of it are free.
type inbox struct {
	frames []api.Frame
	first  int
}

// count is how many are in it.
func (b *inbox) count() int {
	return len(b.frames) - b.first
}

// put puts one behind the others. It is kept as it is.
func (b *inbox) put(frame api.Frame) {
	b.frames = append(b.frames, frame)
}

// take takes the first one, if there is one.
func (b *inbox) take() (api.Frame, bool) {
	if b.count() == 0 {
		return api.Frame{}, false
	}
	out := b.frames[b.first]
	b.frames[b.first] = api.Frame{} // so that its data is not kept
	b.first++
	if b.first >= b.count() {
		b.closeUp()
	}
	return out, true
}

// closeUp moves the others to the front, in a list of no more places than they need. That there are no more of them than
// of free places makes it cheap: as many were taken since it was done last.
func (b *inbox) closeUp() {
	b.frames = append([]api.Frame(nil), b.frames[b.first:]...)
	b.first = 0
}

// list is all of it, the first one first, in memory of its own.
func (b *inbox) list() []api.Frame {
	all := make([]api.Frame, 0, b.count())
	for _, frame := range b.frames[b.first:] {
		frame.Data = bytes.Clone(frame.Data)
		all = append(all, frame)
	}
	return all
}
