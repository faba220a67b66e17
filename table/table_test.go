package table

import (
	"maps"
	"math"
	"slices"
	"strconv"
	"testing"

	"mizzen/api"
)

func equal[T comparable](t *testing.T, what string, got, want T) {
	t.Helper()
	if got != want {
		t.Errorf("%s: got %v, want %v", what, got, want)
	}
}

// lists holds two lists, of which nil is as good as an empty one.
func lists[T comparable](t *testing.T, what string, got, want []T) {
	t.Helper()
	if !slices.Equal(got, want) {
		t.Errorf("%s: got %d: %v, want %d: %v", what, len(got), short(got), len(want), short(want))
	}
}

// short is the first ones of a list, so that what fails is told in a few lines.
func short[T any](list []T) []T {
	return list[:min(len(list), 20)]
}

// made is an empty one.
func made[V any](t *testing.T, most int) *Table[V] {
	t.Helper()
	x, e := New[V](most)
	if x == nil || e != api.OK {
		t.Fatalf("New(%d): got %v, %v", most, x, e)
	}
	return x
}

// gets holds that this stands at k.
func gets[V comparable](t *testing.T, x *Table[V], k Key, want V) {
	t.Helper()
	v, ok := x.Get(k)
	equal(t, "there", ok, true)
	equal(t, "what is there", v, want)
}

// wants holds that nothing stands at k.
func wants[V comparable](t *testing.T, x *Table[V], k Key) {
	t.Helper()
	var zero V
	v, ok := x.Get(k)
	equal(t, "there", ok, false)
	equal(t, "beside a false", v, zero)
}

// same holds all that can be told of x against a map.
func same[V comparable](t *testing.T, x *Table[V], want map[Key]V) {
	t.Helper()
	equal(t, "Len", x.Len(), len(want))
	keys := slices.SortedFunc(maps.Keys(want), slowBefore)
	lists(t, "Keys", x.Keys(), keys)
	for _, k := range keys {
		gets(t, x, k, want[k])
	}
	lists(t, "keys of Each", Each(x, func(k Key, _ V) Key { return k }), keys)
	var values []V
	for _, k := range keys {
		values = append(values, want[k])
	}
	lists(t, "values of Each", Each(x, func(_ Key, v V) V { return v }), values)
}

// slowBefore is the order of keys, in the chapter's words.
func slowBefore(a, b Key) int {
	if a.Peer < b.Peer || a.Peer == b.Peer && a.ID < b.ID {
		return -1
	}
	if a == b {
		return 0
	}
	return 1
}

// draws is a rule for numbers.
type draws uint64

func (d *draws) below(n int) int {
	*d = *d*6364136223846793005 + 1442695040888963407
	return int(uint64(*d)>>33) % n
}

func TestP81New(t *testing.T) {
	for _, most := range []int{0, -1, -100000, math.MinInt, 100001, 1 << 32, 1<<32 + 5, math.MaxInt} {
		x, e := New[string](most)
		equal(t, "error", e, api.ErrArg)
		equal(t, "beside an error", x, nil)
	}
	for _, most := range []int{1, 2, 7, 8, 9, 99999, 100000} {
		x := made[string](t, most)
		equal(t, "Most", x.Most(), most)
		equal(t, "Len", x.Len(), 0)
		lists(t, "Keys", x.Keys(), nil)
		wants(t, x, Key{})
		equal(t, "Set", x.Set(Key{}, "a"), api.ErrNone)
		equal(t, "Delete", x.Delete(Key{}), api.ErrNone)
		same(t, x, nil)
	}
}

func TestP81Put(t *testing.T) {
	x := made[string](t, 2)
	a, b, c := Key{Peer: 1, ID: 2}, Key{Peer: 2, ID: 1}, Key{Peer: 1, ID: 1}
	equal(t, "the first one", x.Put(a, "a"), api.OK)
	same(t, x, map[Key]string{a: "a"})
	equal(t, "it again", x.Put(a, "z"), api.ErrThere)
	same(t, x, map[Key]string{a: "a"})
	equal(t, "another one", x.Put(b, "b"), api.OK)
	same(t, x, map[Key]string{a: "a", b: "b"})
	equal(t, "one too many", x.Put(c, "c"), api.ErrFull)
	wants(t, x, c)
	equal(t, "ErrThere ahead of ErrFull", x.Put(b, "z"), api.ErrThere)
	same(t, x, map[Key]string{a: "a", b: "b"})
	equal(t, "out", x.Delete(a), api.OK)
	equal(t, "room again", x.Put(c, "c"), api.OK)
	equal(t, "full again", x.Put(a, "a"), api.ErrFull)
	same(t, x, map[Key]string{b: "b", c: "c"})
	equal(t, "Most", x.Most(), 2)
}

// TestP81One: the chapter's example.
func TestP81One(t *testing.T) {
	x := made[int](t, 1)
	equal(t, "Put", x.Put(Key{Peer: 1, ID: 1}, 5), api.OK)
	equal(t, "Put of another one", x.Put(Key{Peer: 1, ID: 2}, 6), api.ErrFull)
	same(t, x, map[Key]int{{Peer: 1, ID: 1}: 5})
}

func TestP81Set(t *testing.T) {
	x := made[string](t, 3)
	a, b := Key{Peer: 1, ID: 2}, Key{Peer: 1, ID: 3}
	equal(t, "of an empty one", x.Set(a, "z"), api.ErrNone)
	same(t, x, nil)
	x.Put(a, "a")
	equal(t, "none", x.Set(b, "z"), api.ErrNone)
	wants(t, x, b)
	same(t, x, map[Key]string{a: "a"})
	equal(t, "it", x.Set(a, "y"), api.OK)
	same(t, x, map[Key]string{a: "y"})
	equal(t, "it again, to nothing", x.Set(a, ""), api.OK)
	gets(t, x, a, "")
	x.Put(b, "b")
	x.Put(Key{}, "c")
	equal(t, "of a full one", x.Set(b, "q"), api.OK)
	equal(t, "none of a full one", x.Set(Key{Peer: 9}, "q"), api.ErrNone)
	same(t, x, map[Key]string{a: "", b: "q", {}: "c"})
	x.Delete(b)
	equal(t, "of one that was", x.Set(b, "q"), api.ErrNone)
	wants(t, x, b)
}

func TestP81Delete(t *testing.T) {
	x := made[string](t, 3)
	a, b := Key{Peer: 1, ID: 2}, Key{Peer: 2, ID: 2}
	x.Put(a, "a")
	x.Put(b, "b")
	equal(t, "none", x.Delete(Key{Peer: 1, ID: 1}), api.ErrNone)
	same(t, x, map[Key]string{a: "a", b: "b"})
	equal(t, "it", x.Delete(a), api.OK)
	wants(t, x, a)
	equal(t, "it again", x.Delete(a), api.ErrNone)
	same(t, x, map[Key]string{b: "b"})
	equal(t, "there again", x.Put(a, "c"), api.OK)
	gets(t, x, a, "c")
	equal(t, "the one", x.Delete(b), api.OK)
	equal(t, "the other one", x.Delete(a), api.OK)
	same(t, x, nil)
}

// TestP81Get: a key is its peer and its id, no less; one whose value is zero is there.
func TestP81Get(t *testing.T) {
	x := made[int](t, 10)
	x.Put(Key{Peer: 3, ID: 4}, 0)
	gets(t, x, Key{Peer: 3, ID: 4}, 0)
	for _, k := range []Key{{}, {Peer: 4, ID: 3}, {Peer: 3}, {ID: 4}, {Peer: 3, ID: 5}, {Peer: 2, ID: 4}, {Peer: -3, ID: 4}, {Peer: 3, ID: 4 + 1<<32}, {Peer: 3, ID: 4 + 1<<63}, {Peer: 3, ID: math.MaxUint64 - 3}} {
		wants(t, x, k)
		equal(t, "Set of another one", x.Set(k, 7), api.ErrNone)
		equal(t, "Delete of another one", x.Delete(k), api.ErrNone)
	}
	same(t, x, map[Key]int{{Peer: 3, ID: 4}: 0})
}

// TestP81Keys: by Peer, as a number with a sign, then by ID, as one without.
func TestP81Keys(t *testing.T) {
	want := []Key{
		{math.MinInt, 0}, {math.MinInt, math.MaxUint64}, {-2, 7}, {-1, 0}, {-1, 1}, {-1, math.MaxUint64},
		{0, 0}, {0, 1}, {0, 9}, {0, 10}, {0, math.MaxInt64}, {0, 1 << 63}, {0, math.MaxUint64},
		{1, 0}, {1, 3}, {2, 1}, {10, 0}, {math.MaxInt, 0}, {math.MaxInt, math.MaxUint64},
	}
	for step := 1; step < len(want); step++ {
		x := made[int](t, len(want))
		for i := range want {
			// len(want) is prime: each step goes through all of them.
			at := i * step % len(want)
			equal(t, "Put", x.Put(want[at], at), api.OK)
		}
		lists(t, "Keys", x.Keys(), want)
		for i, k := range want {
			gets(t, x, k, i)
		}
	}
}

func TestP81LenMost(t *testing.T) {
	x := made[int](t, 40)
	for i := range 50 {
		equal(t, "Len", x.Len(), min(i, 40))
		equal(t, "Most", x.Most(), 40)
		x.Put(Key{Peer: i % 3, ID: uint64(i)}, i)
		x.Put(Key{}, 1)
	}
	for i := range 50 {
		equal(t, "Len", x.Len(), max(0, 40-i))
		x.Delete(Key{Peer: i % 3, ID: uint64(i)})
		x.Delete(Key{Peer: 99})
	}
	equal(t, "Most", x.Most(), 40)
}

func TestP82Each(t *testing.T) {
	x := made[string](t, 10)
	tell := func(k Key, v string) string { return strconv.Itoa(k.Peer) + "." + strconv.FormatUint(k.ID, 10) + v }
	lists(t, "of an empty one", Each(x, tell), nil)
	x.Put(Key{Peer: 2, ID: 1}, "a")
	x.Put(Key{Peer: -1, ID: 9}, "b")
	x.Put(Key{Peer: 1, ID: 1 << 63}, "c")
	x.Put(Key{Peer: 1, ID: 3}, "d")
	lists(t, "of each", Each(x, tell), []string{"-1.9b", "1.3d", "1.9223372036854775808c", "2.1a"})
	lists(t, "of another type", Each(x, func(k Key, v string) int { return int(v[0]) }), []int{'b', 'd', 'c', 'a'})
	x.Delete(Key{Peer: 1, ID: 3})
	x.Set(Key{Peer: 2, ID: 1}, "z")
	lists(t, "of each that is left", Each(x, tell), []string{"-1.9b", "1.9223372036854775808c", "2.1z"})
	lists(t, "of a nil f", Each[string, int](x, nil), nil)
	same(t, x, map[Key]string{{Peer: -1, ID: 9}: "b", {Peer: 1, ID: 1 << 63}: "c", {Peer: 2, ID: 1}: "z"})
}

// TestP82EachCalls: f is called once for each, in order.
func TestP82EachCalls(t *testing.T) {
	x := made[int](t, 100)
	for i := range 100 {
		x.Put(Key{Peer: i % 7, ID: uint64(i * 31 % 100)}, i)
	}
	var asked []Key
	Each(x, func(k Key, v int) struct{} {
		asked = append(asked, k)
		gets(t, x, k, v)
		return struct{}{}
	})
	lists(t, "asked", asked, x.Keys())
}

// TestP82EachTurns: what f does to the table is seen by later calls alone.
func TestP82EachTurns(t *testing.T) {
	x := made[int](t, 40)
	for i := range 20 {
		x.Put(Key{ID: uint64(i)}, i)
	}
	told := Each(x, func(k Key, v int) int {
		last := uint64(19) - k.ID
		x.Delete(Key{ID: last})
		x.Set(Key{ID: k.ID + 1}, 1000)
		x.Put(Key{ID: k.ID + 100}, v)
		return v
	})
	for i, v := range told {
		equal(t, "told", v, i)
	}
	equal(t, "told in all", len(told), 20)
	want := map[Key]int{}
	for i := range 20 {
		want[Key{ID: uint64(i + 100)}] = i
	}
	same(t, x, want)
	inner := Each(x, func(Key, int) int { return len(Each(x, func(Key, int) int { return 1 })) })
	lists(t, "of Each within Each", inner, slices.Repeat([]int{20}, 20))
}

// TestP82EachPanics: a panic of f's is caught, and tells nothing.
func TestP82EachPanics(t *testing.T) {
	x := made[int](t, 10)
	for i := range 10 {
		x.Put(Key{ID: uint64(i)}, i)
	}
	var none []int
	for at := range 10 {
		told := Each(x, func(k Key, v int) int {
			if v == at {
				return none[v]
			}
			return v
		})
		lists(t, "told", told, nil)
		equal(t, "Len", x.Len(), 10)
	}
	lists(t, "told", Each(x, func(Key, int) int { panic("no") }), nil)
	lists(t, "told then", Each(x, func(_ Key, v int) int { return v }), []int{0, 1, 2, 3, 4, 5, 6, 7, 8, 9})
}

// answersNothing holds what a table does that has no room at all.
func answersNothing(t *testing.T, x *Table[string]) {
	t.Helper()
	k := Key{Peer: 1, ID: 1}
	for range 2 {
		equal(t, "Put", x.Put(k, "a"), api.ErrFull)
		equal(t, "Set", x.Set(k, "a"), api.ErrNone)
		equal(t, "Delete", x.Delete(k), api.ErrNone)
		wants(t, x, k)
		wants(t, x, Key{})
		lists(t, "Keys", x.Keys(), nil)
		equal(t, "Len", x.Len(), 0)
		equal(t, "Most", x.Most(), 0)
		lists(t, "Each", Each(x, func(Key, string) int { return 1 }), nil)
		lists(t, "Each of a nil f", Each[string, int](x, nil), nil)
	}
}

func TestP82Nil(t *testing.T) {
	answersNothing(t, nil)
	answersNothing(t, &Table[string]{})
}

// patterns are keys that a hash might lay onto few slots: each makes the i-th one of its own.
func patterns() []func(i int) Key {
	return []func(i int) Key{
		func(i int) Key { return Key{ID: uint64(i)} },
		func(i int) Key { return Key{Peer: i} },
		func(i int) Key { return Key{Peer: -i} },
		func(i int) Key { return Key{Peer: i, ID: uint64(i)} },
		func(i int) Key { return Key{Peer: -i, ID: uint64(i)} },
		func(i int) Key { return Key{Peer: i, ID: -uint64(i)} },
		func(i int) Key { return Key{Peer: i % 8, ID: uint64(i / 8)} },
		func(i int) Key { return Key{Peer: i / 300, ID: uint64(i % 300)} },
		func(i int) Key { return Key{ID: uint64(i) << 17} },
		func(i int) Key { return Key{ID: uint64(i) << 47} },
		func(i int) Key { return Key{Peer: i << 32, ID: uint64(i) << 32} },
		func(i int) Key { return Key{Peer: i << 47} },
		func(i int) Key { return Key{Peer: math.MinInt + i, ID: math.MaxUint64 - uint64(i)} },
		func(i int) Key { return Key{ID: uint64(i) * 0x9e3779b97f4a7c15} },
	}
}

// TestP83Patterns: all that was put is got, at the most that a table may have, whatever its keys are like.
func TestP83Patterns(t *testing.T) {
	const most = 100000
	for p, key := range patterns() {
		x := made[int](t, most)
		for i := range most {
			if e := x.Put(key(i), i); e != api.OK {
				t.Fatalf("pattern %d: Put %d: %v", p, i, e)
			}
		}
		equal(t, "ErrFull", x.Put(key(most), 0), api.ErrFull)
		equal(t, "Len", x.Len(), most)
		// Every third one stays.
		for i := range most {
			if v, ok := x.Get(key(i)); !ok || v != i {
				t.Fatalf("pattern %d: Get %d: %d, %v", p, i, v, ok)
			}
			if i%3 != 0 {
				equal(t, "Delete", x.Delete(key(i)), api.OK)
			}
		}
		for i := range most {
			if v, ok := x.Get(key(i)); ok != (i%3 == 0) || ok && v != i {
				t.Fatalf("pattern %d: Get %d at last: %d, %v", p, i, v, ok)
			}
		}
		keys := x.Keys()
		equal(t, "Keys", len(keys), x.Len())
		equal(t, "Keys in order", slices.IsSortedFunc(keys, slowBefore), true)
	}
}

// TestP83Searches: whatever the keys are like, no search goes through many slots, and some slots stay free.
func TestP83Searches(t *testing.T) {
	const most = 20000
	for p, key := range patterns() {
		x := made[int](t, most)
		for i := range most {
			x.Put(key(i), i)
		}
		equal(t, "free slots", len(x.slots) >= 2*most, true)
		sum := 0
		for i := range x.slots {
			if x.slots[i].taken {
				sum += x.slots.steps(x.slots.home(x.slots[i].k), i)
			}
		}
		if sum > most {
			t.Errorf("pattern %d: %d steps beside the first ones for %d keys", p, sum, most)
		}
	}
}

// crowd is keys whose searches begin at one slot of s.
func crowd(s slots[int], home, n int) []Key {
	var keys []Key
	for k := (Key{Peer: 1}); len(keys) < n; k.ID++ {
		if s.home(k) == home {
			keys = append(keys, k)
		}
	}
	return keys
}

// TestP83Crowds: keys of one slot, of the one behind it and of a far one, at each place of the slots: the last one's searches go on at the first one. Each order of deleting leaves the others to be found.
func TestP83Crowds(t *testing.T) {
	some := make(slots[int], fewestSlots)
	for home := range some {
		keys := append(crowd(some, home, 2), crowd(some, some.after(home), 1)...)
		keys = append(keys, crowd(some, home^4, 1)...)
		for order := range 4 * 4 * 4 * 4 {
			x := made[int](t, 10)
			want := map[Key]int{}
			for i, k := range keys {
				equal(t, "Put", x.Put(k, i), api.OK)
				want[k] = i
			}
			equal(t, "slots", len(x.slots), fewestSlots)
			for range keys {
				k := keys[order%4]
				order /= 4
				e := api.ErrNone
				if _, ok := want[k]; ok {
					e = api.OK
				}
				equal(t, "Delete", x.Delete(k), e)
				delete(want, k)
				same(t, x, want)
			}
		}
	}
}

// goes does and holds steps, of which so many of ten put.
func goes(t *testing.T, d *draws, x *Table[int], want map[Key]int, steps, puts int) {
	t.Helper()
	for i := range steps {
		k := Key{Peer: d.below(5) - 2, ID: uint64(d.below(40))}
		v, there := want[k]
		got, ok := x.Get(k)
		equal(t, "there", ok, there)
		equal(t, "what is there", got, v)
		switch c := d.below(10); {
		case c < puts:
			e := api.OK
			if there {
				e = api.ErrThere
			} else if len(want) >= x.Most() {
				e = api.ErrFull
			} else {
				want[k] = i
			}
			equal(t, "Put", x.Put(k, i), e)
		case c == 9:
			e := api.ErrNone
			if there {
				e, want[k] = api.OK, -i
			}
			equal(t, "Set", x.Set(k, -i), e)
		default:
			e := api.ErrNone
			if there {
				e = api.OK
			}
			equal(t, "Delete", x.Delete(k), e)
			delete(want, k)
		}
		equal(t, "Len", x.Len(), len(want))
	}
	same(t, x, want)
}

// TestP83Steps: a table, step by step, against a map, while it fills and while it empties.
func TestP83Steps(t *testing.T) {
	for _, most := range []int{1, 2, 3, 4, 5, 8, 30, 120, 199, 200, 1000} {
		d := draws(most)
		x := made[int](t, most)
		want := map[Key]int{}
		for _, puts := range []int{7, 2, 9, 1, 4, 5, 0, 8} {
			goes(t, &d, x, want, 600, puts)
		}
		for k := range maps.Clone(want) {
			equal(t, "Delete", x.Delete(k), api.OK)
			delete(want, k)
			same(t, x, want)
		}
	}
}

// TestP83Room: a table takes room for what is in it, not for what may be, nor for what was.
func TestP83Room(t *testing.T) {
	x := made[int](t, 100000)
	equal(t, "slots of none", len(x.slots), 0)
	for i := range 3000 {
		x.Put(Key{ID: uint64(i)}, i)
		if 2*x.Len() > len(x.slots) || len(x.slots) > max(fewestSlots, 4*x.Len()) {
			t.Fatalf("%d slots for %d", len(x.slots), x.Len())
		}
	}
	for i := range 3000 {
		x.Delete(Key{ID: uint64(i)})
		if 2*x.Len() > len(x.slots) || len(x.slots) > max(fewestSlots, 8*x.Len()) {
			t.Fatalf("%d slots for %d", len(x.slots), x.Len())
		}
	}
	for i, s := range x.slots {
		equal(t, "slot "+strconv.Itoa(i), s, slot[int]{})
	}
}

// TestP83NewMemory: what is done to an answer is not done to the table, nor to another answer.
func TestP83NewMemory(t *testing.T) {
	x := made[int](t, 10)
	for i := range 5 {
		x.Put(Key{Peer: i}, i)
	}
	keys, more := x.Keys(), x.Keys()
	tell := func(_ Key, v int) int { return v }
	told, again := Each(x, tell), Each(x, tell)
	clear(keys[:cap(keys)])
	clear(told[:cap(told)])
	for i := range 5 {
		gets(t, x, Key{Peer: i}, i)
		equal(t, "a key of another answer", more[i], Key{Peer: i})
		equal(t, "one of another answer", again[i], i)
	}
	x.Delete(Key{Peer: 3})
	x.Put(Key{Peer: 9}, 9)
	equal(t, "an answer then", more[3], Key{Peer: 3})
	lists(t, "Keys", x.Keys(), []Key{{Peer: 0}, {Peer: 1}, {Peer: 2}, {Peer: 4}, {Peer: 9}})
}

// TestP83Kept: values are kept as they are, of whatever type, while slots come and go; two tables have nothing in common.
func TestP83Kept(t *testing.T) {
	x, y := made[*int](t, 100), made[*int](t, 100)
	numbers := make([]int, 100)
	for i := range numbers {
		x.Put(Key{ID: uint64(i)}, &numbers[i])
	}
	equal(t, "the other one's", y.Len(), 0)
	y.Put(Key{ID: 5}, nil)
	gets(t, y, Key{ID: 5}, nil)
	for i := range numbers {
		gets(t, x, Key{ID: uint64(i)}, &numbers[i])
	}
	y.Delete(Key{ID: 5})
	gets(t, x, Key{ID: 5}, &numbers[5])

	z := made[any](t, 2)
	z.Put(Key{}, []int{1})
	z.Put(Key{ID: 1}, func() {})
	v, ok := z.Get(Key{})
	lists(t, "a list", v.([]int), []int{1})
	equal(t, "there", ok, true)
	none := made[struct{}](t, 2)
	none.Put(Key{}, struct{}{})
	gets(t, none, Key{}, struct{}{})
	wants(t, none, Key{ID: 1})
}
