package peer

// link is a thing of a line, and the one behind it.
type link[V any] struct {
	v    V
	next *link[V]
}

// line is things in the order in which they came. They are linked, so that none that went keeps room.
type line[V any] struct {
	first *link[V]
	last  *link[V]
	count int
}

// put puts one in, behind all others.
func (l *line[V]) put(v V) {
	added := &link[V]{v: v}
	if l.first == nil {
		l.first = added
	} else {
		l.last.next = added
	}
	l.last = added
	l.count++
}

// take takes the first one out, if there is one.
func (l *line[V]) take() (V, bool) {
	if l.first == nil {
		var none V
		return none, false
	}
	v := l.first.v
	l.first = l.first.next
	if l.first == nil {
		// Else what went would be kept here.
		l.last = nil
	}
	l.count--
	return v, true
}
