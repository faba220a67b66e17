package peer

import (
	"slices"
)

// roomy: a list gives memory back that has places for more than so many times what stands in it.
const roomy = 4

// numbers is a list of ids, rising.
type numbers []uint64

// with is the list with one more, which was not in it.
func (l numbers) with(id uint64) numbers {
	at, _ := slices.BinarySearch(l, id)
	return slices.Insert(l, at, id)
}

// without is the list but for one, which was in it.
func (l numbers) without(id uint64) numbers {
	at, _ := slices.BinarySearch(l, id)
	return slices.Delete(l, at, at+1).fitted()
}

// below is the piece of the list that is below one.
func (l numbers) below(id uint64) numbers {
	at, _ := slices.BinarySearch(l, id)
	return l[:at]
}

// behind is the list but for its first n.
func (l numbers) behind(n int) numbers {
	return slices.Delete(l, 0, n).fitted()
}

// fitted is the same list, in memory that is not much more than it needs.
func (l numbers) fitted() numbers {
	if cap(l) > roomy*len(l) {
		return append(numbers(nil), l...)
	}
	return l
}
