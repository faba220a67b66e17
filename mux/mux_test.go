package mux

import (
	"math"
	"runtime"
	"slices"
	"strconv"
	"testing"
	"time"
)

func equal[T comparable](t *testing.T, what string, got, want T) {
	t.Helper()
	if got != want {
		t.Errorf("%s: got %v, want %v", what, got, want)
	}
}

// lists holds two lists, of which nil is as good as an empty one.
func lists[T comparable](t *testing.T, what string, got, want []T) {
	t.Helper()
	if !slices.Equal(got, want) {
		t.Errorf("%s: got %d: %v, want %d: %v", what, len(got), short(got), len(want), short(want))
	}
}

// short is the first ones of a list, so that what fails is told in a few lines.
func short[T any](list []T) []T {
	return list[:min(len(list), 20)]
}

// draws is a rule for numbers.
type draws uint64

func (d *draws) below(n int) int {
	*d = *d*6364136223846793005 + 1442695040888963407
	return int(uint64(*d)>>33) % n
}

// slowly is what comes of lists, one list behind the other.
func slowly[T any](l ...[]T) []Item[T] {
	var all []Item[T]
	for from, list := range l {
		for n, v := range list {
			all = append(all, Item[T]{From: from, N: n, V: v})
		}
	}
	return all
}

// rows is so many lists, the i-th of which has what size tells; no two numbers in them are alike.
func rows(count int, size func(i int) int) [][]int {
	var l [][]int
	v := 0
	for i := range count {
		list := make([]int, size(i))
		for k := range list {
			v++
			list[k] = v
		}
		l = append(l, list)
	}
	return l
}

// always is a size that does not hang on the list.
func always(size int) func(int) int {
	return func(int) int { return size }
}

func TestP111Gather(t *testing.T) {
	lists(t, "the chapter's", Gather([]int{1, 2}), []Item[int]{{0, 0, 1}, {0, 1, 2}})
	lists(t, "two", Gather([]string{"b", "a"}, []string{"b"}), []Item[string]{{0, 0, "b"}, {0, 1, "a"}, {1, 0, "b"}})
	lists(t, "three", Gather([]int{9}, []int{8, 7}, []int{6}), []Item[int]{{0, 0, 9}, {1, 0, 8}, {1, 1, 7}, {2, 0, 6}})
	lists(t, "no list", Gather[int](), nil)
	lists(t, "nothing in them", Gather(nil, []int{}, nil), nil)
	lists(t, "nothing in some", Gather(nil, []int{5}, []int{}, nil, []int{4}, nil), []Item[int]{{1, 0, 5}, {4, 0, 4}})
	lists(t, "nothing in the first ones", Gather(nil, nil, nil, []int{3, 3}), []Item[int]{{3, 0, 3}, {3, 1, 3}})
}

// TestP111Many: more lists than go at once, and longer ones than wait in a way.
func TestP111Many(t *testing.T) {
	for _, count := range []int{1, 2, 3, 7, 8, 999, 1000, 1001, 1999, 2000, 2001, 5003} {
		for _, size := range []int{0, 1, 2, 3, 9} {
			l := rows(count, always(size))
			lists(t, strconv.Itoa(count)+" lists of "+strconv.Itoa(size), Gather(l...), slowly(l...))
		}
	}
	for _, size := range []int{63, 64, 65, 127, 128, 129, 1000, 30000} {
		for count := range 6 {
			l := rows(count, always(size))
			lists(t, strconv.Itoa(count)+" lists of "+strconv.Itoa(size), Gather(l...), slowly(l...))
		}
	}
	long := rows(1, always(1000000))
	lists(t, "one long list", Gather(long...), slowly(long...))
	lists(t, "a long one and a short one", Gather(long[0], []int{1}), slowly(long[0], []int{1}))
	lists(t, "a short one and a long one", Gather([]int{1}, long[0]), slowly([]int{1}, long[0]))
}

func TestP111Drawn(t *testing.T) {
	d := draws(11)
	for i := range 3000 {
		most := []int{1, 3, 70, 300}[d.below(4)]
		l := rows(d.below(12), func(int) int { return d.below(most) })
		lists(t, "drawn", Gather(l...), slowly(l...))
		if t.Failed() {
			t.Fatalf("%d: %v", i, l)
		}
	}
}

// TestP111Values: values of a type argument are kept as they are, be they great, without bytes, or none.
func TestP111Values(t *testing.T) {
	type great [70000]byte
	a, b := great{1: 1}, great{69999: 2}
	equal(t, "great ones", slices.Equal(Gather([]great{a, b}, []great{b}), []Item[great]{{0, 0, a}, {0, 1, b}, {1, 0, b}}), true)
	lists(t, "without bytes", Gather(make([]struct{}, 2), make([]struct{}, 1)), slowly(make([]struct{}, 2), make([]struct{}, 1)))
	x, y := 1, 1
	lists(t, "pointers", Gather([]*int{&x, nil}, []*int{&y}), []Item[*int]{{0, 0, &x}, {0, 1, nil}, {1, 0, &y}})
	lists(t, "of any type", Gather([]any{1, "a"}, []any{nil}), []Item[any]{{0, 0, 1}, {0, 1, "a"}, {1, 0, nil}})
	got := Gather([][]int{{1}, nil}, [][]int{{2, 3}})
	equal(t, "lists", len(got), 3)
	lists(t, "a list", got[2].V, []int{2, 3})
}

func TestP111Fan(t *testing.T) {
	var met []int
	got := Fan(5, func(i int) []int {
		met = append(met, i)
		return slices.Repeat([]int{10 * i}, i%3)
	})
	lists(t, "f is called", met, []int{0, 1, 2, 3, 4})
	lists(t, "Fan", got, []Item[int]{{1, 0, 10}, {2, 0, 20}, {2, 1, 20}, {4, 0, 40}})
	lists(t, "of a nil f", Fan[int](5, nil), nil)
	lists(t, "of a nil f, as often as it may be", Fan[int](math.MaxInt, nil), nil)
	lists(t, "nothing is told", Fan(5, func(int) []int { return nil }), nil)
}

// TestP111FanClamp: n is clamped, and f called no more often than that.
func TestP111FanClamp(t *testing.T) {
	for _, x := range []struct{ n, calls int }{
		{math.MinInt, 0}, {-1000, 0}, {-1, 0}, {0, 0}, {1, 1}, {2, 2}, {999, 999}, {1000, 1000}, {1001, 1000}, {1 << 32, 1000}, {math.MaxInt, 1000},
	} {
		var met []int
		got := Fan(x.n, func(i int) []int {
			met = append(met, i)
			return []int{i, -i}
		})
		want := rows(x.calls, always(2))
		for i := range want {
			want[i] = []int{i, -i}
		}
		lists(t, "Fan of "+strconv.Itoa(x.n), got, slowly(want...))
		equal(t, "calls of f", len(met), x.calls)
		equal(t, "calls of f: in order", slices.IsSorted(met), true)
	}
}

// TestP111FanAgain: f may use the memory of its list again, as soon as it is called again.
func TestP111FanAgain(t *testing.T) {
	var list [3]int
	got := Fan(4, func(i int) []int {
		for k := range list {
			list[k] = 10*i + k
		}
		return list[:i]
	})
	lists(t, "one list's memory", got, []Item[int]{{1, 0, 10}, {2, 0, 20}, {2, 1, 21}, {3, 0, 30}, {3, 1, 31}, {3, 2, 32}})
}

// TestP111FanPanics: a panic of f's is caught; f is called of the others, and their lists are told.
func TestP111FanPanics(t *testing.T) {
	calls := 0
	got := Fan(5, func(i int) []int {
		calls++
		if i%2 == 1 {
			panic("no")
		}
		return []int{i}
	})
	equal(t, "calls of f", calls, 5)
	lists(t, "Fan", got, []Item[int]{{0, 0, 0}, {2, 0, 2}, {4, 0, 4}})
	lists(t, "all panic", Fan(5, func(int) []int { panic(nil) }), nil)
}

// TestP111FanWithin: f may gather, too.
func TestP111FanWithin(t *testing.T) {
	got := Fan(3, func(i int) []Item[int] {
		return Fan(i, func(k int) []int { return []int{i + k} })
	})
	lists(t, "within", got, []Item[Item[int]]{{1, 0, Item[int]{0, 0, 1}}, {2, 0, Item[int]{0, 0, 2}}, {2, 1, Item[int]{1, 0, 3}}})
}

// TestP113Again: which way is first is seen in no answer, on one processor and on many.
func TestP113Again(t *testing.T) {
	defer runtime.GOMAXPROCS(runtime.GOMAXPROCS(0))
	l := rows(33, func(i int) int { return i * i % 200 })
	want := slowly(l...)
	for _, processors := range []int{1, 2, 8} {
		runtime.GOMAXPROCS(processors)
		for range 200 {
			lists(t, strconv.Itoa(processors)+" processors", Gather(l...), want)
			lists(t, strconv.Itoa(processors)+" processors: Fan", Fan(33, func(i int) []int { return l[i] }), want)
		}
	}
}

// ended holds that there are no more goroutines than there were: one that has done all may need a moment more to go.
func ended(t *testing.T, what string, before int) {
	t.Helper()
	for range 2000 {
		if runtime.NumGoroutine() <= before {
			return
		}
		time.Sleep(time.Millisecond)
	}
	t.Fatalf("%s: got %d goroutines, want %d", what, runtime.NumGoroutine(), before)
}

func TestP113Ended(t *testing.T) {
	before := runtime.NumGoroutine()
	for _, count := range []int{0, 1, 2, 3, 1000, 1001, 2500} {
		for _, size := range []int{0, 1, 100} {
			Gather(rows(count, always(size))...)
			ended(t, "Gather of "+strconv.Itoa(count), before)
		}
	}
	Fan(1000, func(i int) []int { return make([]int, i%70) })
	ended(t, "Fan", before)
	Fan(1000, func(i int) []int {
		if i > 500 {
			panic("no")
		}
		return make([]int, i%70)
	})
	ended(t, "Fan of an f that panics", before)
}

// TestP113NotTouched: once a call has answered, nobody reads the lists any more. (Told by the race detector, where there is one.)
func TestP113NotTouched(t *testing.T) {
	l := rows(20, always(200))
	want := slowly(l...)
	for range 50 {
		c := make([][]int, len(l))
		for i := range l {
			c[i] = slices.Clone(l[i])
		}
		got := Gather(c...)
		for i := range c {
			clear(c[i])
			c[i] = nil
		}
		lists(t, "the lists changed behind it", got, want)
	}
}

// TestP113New: what is handed in is not changed, its spare room neither, and what is answered is new memory.
func TestP113New(t *testing.T) {
	memory := []int{1, 2, 3, 4, 5, 6}
	l := [][]int{memory[0:2], memory[1:3], nil, {7}, {8}}
	a := Gather(l[:3]...)
	b := Gather(l[:3]...)
	lists(t, "what was handed in", memory, []int{1, 2, 3, 4, 5, 6})
	equal(t, "what was handed in: lists", len(l[2]) == 0 && l[3][0] == 7 && l[4][0] == 8, true)
	want := []Item[int]{{0, 0, 1}, {0, 1, 2}, {1, 0, 2}, {1, 1, 3}}
	lists(t, "lists that share", a, want)
	for i := range a {
		a[i] = Item[int]{-1, -1, -1}
	}
	_ = append(a, Item[int]{-2, -2, -2})
	lists(t, "another answer", b, want)
	lists(t, "what was handed in, the answer changed", memory, []int{1, 2, 3, 4, 5, 6})

	kept := []int{1, 2}
	f := func(int) []int { return kept }
	c := Fan(2, f)
	kept[0] = 9
	lists(t, "what f told changed behind it", c, []Item[int]{{0, 0, 1}, {0, 1, 2}, {1, 0, 1}, {1, 1, 2}})
	c[0].V = 5
	lists(t, "what f told, the answer changed", kept, []int{9, 2})
}
