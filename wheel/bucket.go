package wheel

import (
	"math/bits"
)

const (
	// digitBits is how many binary digits of a time one bucket tells apart: filled has a bit for each of its buckets.
	digitBits = 4
	fan       = 1 << digitBits
	// leaf is the level of a bucket that has no digit left to tell apart.
	leaf = -1
)

// timer is one that waits, between those that wait for the same time.
type timer[T any] struct {
	due           Due[T]
	before, after *timer[T]
}

// bucket holds what waits for times that are alike above the digit of its level.
// A leaf holds the timers of one time, in the order of their numbers; any other one holds two buckets or more, so that there are fewer of these than timers.
type bucket[T any] struct {
	level       int
	at          int
	first, last *timer[T]
	filled      uint16
	inner       []*bucket[T]
}

// levelOf is the highest digit in which two times differ, and leaf for the same two.
func levelOf(a, b int) int {
	return (bits.Len(uint(a^b))+digitBits-1)/digitBits - 1
}

// digit is the digit of a time that a bucket of a level tells apart.
func digit(at, level int) int {
	return at >> (digitBits * level) % fan
}

// leafOf is a bucket for one time, with one timer.
func leafOf[T any](t *timer[T]) *bucket[T] {
	return &bucket[T]{level: leaf, at: t.due.At, first: t, last: t}
}

// put is b with t in it. It may be another bucket that has b in it.
func (b *bucket[T]) put(t *timer[T]) *bucket[T] {
	if b == nil {
		return leafOf(t)
	}
	level := levelOf(b.at, t.due.At)
	if level > b.level {
		return around(level, b, leafOf(t))
	}
	if b.level == leaf {
		b.link(t)
		return b
	}
	d := digit(t.due.At, b.level)
	b.set(d, b.inner[d].put(t))
	return b
}

// around is a bucket that holds two, whose times differ first in the digit of level.
func around[T any](level int, a, b *bucket[T]) *bucket[T] {
	outer := &bucket[T]{level: level, at: a.at, inner: make([]*bucket[T], fan)}
	outer.set(digit(a.at, level), a)
	outer.set(digit(b.at, level), b)
	return outer
}

// set lets inner, or none, be the bucket of a digit.
func (b *bucket[T]) set(d int, inner *bucket[T]) {
	b.inner[d] = inner
	if inner == nil {
		b.filled &^= 1 << d
	} else {
		b.filled |= 1 << d
	}
}

// lowest is the digit of the earliest of b's buckets.
func (b *bucket[T]) lowest() int {
	return bits.TrailingZeros16(b.filled)
}

// earliest is the leaf of the earliest time.
func (b *bucket[T]) earliest() *bucket[T] {
	for b.level != leaf {
		b = b.inner[b.lowest()]
	}
	return b
}

// find is the leaf of a time that is waited for.
func (b *bucket[T]) find(at int) *bucket[T] {
	for b.level != leaf {
		b = b.inner[digit(at, b.level)]
	}
	return b
}

// drop is b without the leaf of a time that is waited for, or none.
func (b *bucket[T]) drop(at int) *bucket[T] {
	if b.level == leaf {
		return nil
	}
	d := digit(at, b.level)
	b.set(d, b.inner[d].drop(at))
	// One alone needs nothing around it.
	if bits.OnesCount16(b.filled) == 1 {
		return b.inner[b.lowest()]
	}
	return b
}

// link puts t last in a leaf: its number is the greatest there.
func (b *bucket[T]) link(t *timer[T]) {
	t.before = b.last
	b.last.after = t
	b.last = t
}

// unlink takes t out of its leaf, which may have none then.
func (b *bucket[T]) unlink(t *timer[T]) {
	if t.before == nil {
		b.first = t.after
	} else {
		t.before.after = t.after
	}
	if t.after == nil {
		b.last = t.before
	} else {
		t.after.before = t.before
	}
}
