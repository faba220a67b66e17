package port

import (
	"bytes"

	"mizzen/api"
	"mizzen/wire"
)

// Item is a frame on its way.
type Item struct {
	Frame api.Frame
	Path  int
}

// Bytes is how long it is.
func (i Item) Bytes() int {
	return wire.Size(i.Frame)
}

// copied is the same one, with data of its own.
func (i Item) copied() Item {
	i.Frame.Data = bytes.Clone(i.Frame.Data)
	return i
}

// trimmed is what is left of an FData frame. It is not made by wire's Trim of its bytes: a frame that wire would not
// write is trimmed, too.
func (i Item) trimmed() Item {
	i.Frame.Kind, i.Frame.Prio, i.Frame.Data = api.FHeader, highest, nil
	return i
}
