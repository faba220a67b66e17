package queue

// fewestPlaces is how many places a line keeps at least, once it had some. It is a power of 2, and so is each number
// of places, since place goes round by a mask.
const fewestPlaces = 4

// item is one that stands in a line, with the bytes that it told when it was pushed.
type item[T any] struct {
	v     T
	bytes int
}

// line is a ring: the first one stands at first, and behind the last place it goes on at place 0. So what leaves in
// front leaves room for what comes behind, and nothing is moved for it. A place where nothing stands is zero.
type line[T any] struct {
	places []item[T]
	first  int
	count  int
}

// place is where the k-th one stands, or would.
func (l *line[T]) place(k int) *item[T] {
	return &l.places[(l.first+k)&(len(l.places)-1)]
}

// push puts one behind the others.
func (l *line[T]) push(in item[T]) {
	l.roomFor(l.count + 1)
	*l.place(l.count) = in
	l.count++
}

// take takes the k-th one, which is there, out. The others close up from the end that is nearer.
func (l *line[T]) take(k int) item[T] {
	out := *l.place(k)
	if k < l.count/2 {
		l.closeFront(k)
	} else {
		l.closeBack(k)
	}
	l.count--
	l.roomFor(l.count)
	return out
}

// closeFront moves those ahead of the k-th one back by a place.
func (l *line[T]) closeFront(k int) {
	for ; k > 0; k-- {
		*l.place(k) = *l.place(k - 1)
	}
	*l.place(0) = item[T]{}
	l.first = (l.first + 1) % len(l.places)
}

// closeBack moves those behind the k-th one forward by a place.
func (l *line[T]) closeBack(k int) {
	for ; k < l.count-1; k++ {
		*l.place(k) = *l.place(k + 1)
	}
	*l.place(k) = item[T]{}
}

// roomFor lets a line have places for n, and not many more, so that a line that was long does not keep its room.
func (l *line[T]) roomFor(n int) {
	size := len(l.places)
	switch {
	case n > size:
		size = max(fewestPlaces, 2*size)
	case size > fewestPlaces && n <= size/4:
		size /= 2
	default:
		return
	}
	places := make([]item[T], size)
	for k := range l.count {
		places[k] = *l.place(k)
	}
	l.places, l.first = places, 0
}

// list is all of it, the first one first.
func (l *line[T]) list() []T {
	all := make([]T, 0, l.count)
	for k := range l.count {
		all = append(all, l.place(k).v)
	}
	return all
}
