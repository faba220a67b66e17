package engine

import (
	"math"
	"slices"
	"testing"

	"mizzen/api"
)

func equal[T comparable](t *testing.T, what string, got, want T) {
	t.Helper()
	if got != want {
		t.Errorf("%s: got %v, want %v", what, got, want)
	}
}

// lists holds two lists against each other.
func lists[T comparable](t *testing.T, what string, got, want []T) {
	t.Helper()
	if !slices.Equal(got, want) {
		t.Errorf("%s:\n got %v\nwant %v", what, got, want)
	}
}

// draws is a rule for numbers.
type draws uint64

func (d *draws) below(n int) int {
	*d = *d*6364136223846793005 + 1442695040888963407
	return int(uint64(*d)>>33) % n
}

// none is a host that does nothing, has nothing to send, and is never idle.
type none struct{}

func (none) Submit(dst int, data []byte) (uint64, api.Errno) { return 0, api.ErrArg }
func (none) Cancel(id uint64) api.Errno                      { return api.ErrNone }
func (none) Status(id uint64) int                            { return api.SNone }
func (none) Poll() (api.Message, bool)                       { return api.Message{}, false }
func (none) In(f api.Frame)                                  {}
func (none) Out() (api.Frame, bool)                          { return api.Frame{}, false }
func (none) Tick()                                           {}
func (none) Now() int                                        { return 0 }
func (none) Idle() bool                                      { return false }
func (none) Held() (out, in int)                             { return 0, 0 }

// teller writes down what is asked of it, in one list with the other one.
type teller struct {
	none
	name  string
	told  *[]string
	out   []string // the Data of what it has to send
	reply bool     // whether it sends back what comes
	busy  int      // how many ticks it is not idle
	ticks int
}

func (h *teller) tell(what string) { *h.told = append(*h.told, h.name+" "+what) }

func (h *teller) In(f api.Frame) {
	h.tell("in " + string(f.Data))
	if h.reply {
		h.out = append(h.out, string(f.Data)+"!")
	}
}

func (h *teller) Out() (api.Frame, bool) {
	if len(h.out) == 0 {
		h.tell("none")
		return api.Frame{}, false
	}
	data := h.out[0]
	h.out = h.out[1:]
	h.tell("out " + data)
	return api.Frame{Data: []byte(data)}, true
}

func (h *teller) Tick() {
	h.tell("tick")
	h.ticks++
}

func (h *teller) Idle() bool { return h.ticks >= h.busy }

// two are tellers that write in one list.
func two(busyA, busyB int) (a, b *teller, told *[]string) {
	told = new([]string)
	return &teller{name: "a", told: told, busy: busyA}, &teller{name: "b", told: told, busy: busyB}, told
}

// TestP216Turn: a turn, call by call: each frame comes ahead of the next one, a's ahead of all of b's.
func TestP216Turn(t *testing.T) {
	a, b, told := two(2, 1)
	a.out = []string{"x", "y"}
	b.out = []string{"z"}
	b.reply = true
	equal(t, "rounds", Pump(a, b, 9), 2)
	lists(t, "told", *told, []string{
		"a out x", "b in x", "a out y", "b in y", "a none",
		"b out z", "a in z", "b out x!", "a in x!", "b out y!", "a in y!", "b none",
		"a tick", "b tick",
		"a none", "b none", "a tick", "b tick",
	})
}

// TestP216Reply: what a answers waits for the next turn.
func TestP216Reply(t *testing.T) {
	a, b, told := two(9, 9)
	a.reply = true
	b.out = []string{"z"}
	equal(t, "rounds", Pump(a, b, 1), 1)
	lists(t, "told", *told, []string{"a none", "b out z", "a in z", "b none", "a tick", "b tick"})
	*told = nil
	equal(t, "rounds", Pump(a, b, 1), 1)
	lists(t, "told", *told, []string{"a out z!", "b in z!", "a none", "b none", "a tick", "b tick"})
}

// TestP216Rounds: how many are done, of hosts that are idle from some tick on.
func TestP216Rounds(t *testing.T) {
	for _, x := range []struct{ busyA, busyB, rounds, done int }{
		{0, 0, 5, 0}, {0, 0, math.MaxInt, 0}, {1, 0, 5, 1}, {0, 1, 5, 1}, {3, 2, 5, 3}, {2, 3, 5, 3}, {4, 4, math.MaxInt, 4},
		{5, 0, 5, 5}, {6, 0, 5, 5}, {0, 6, 5, 5}, {6, 6, 5, 5}, {6, 6, 1, 1},
		{6, 6, 0, 0}, {6, 6, -1, 0}, {6, 6, math.MinInt, 0}, {0, 0, 0, 0}, {0, 0, -1, 0},
	} {
		a, b, told := two(x.busyA, x.busyB)
		a.out = []string{"x"}
		equal(t, "rounds", Pump(a, b, x.rounds), x.done)
		equal(t, "ticks of a", a.ticks, x.done)
		equal(t, "ticks of b", b.ticks, x.done)
		if x.done == 0 {
			lists(t, "told of no rounds", *told, nil)
		}
		if t.Failed() {
			t.Fatal(x)
		}
	}
}

// TestP216Again: a Pump goes on where the one ahead of it ended.
func TestP216Again(t *testing.T) {
	a, b, _ := two(2, 7)
	equal(t, "first", Pump(a, b, 3), 3)
	equal(t, "second", Pump(a, b, 3), 3)
	equal(t, "third", Pump(a, b, 3), 1)
	equal(t, "fourth", Pump(a, b, 3), 0)
	equal(t, "ticks", a.ticks, 7)
}

// TestP216Same: one host may talk to itself.
func TestP216Same(t *testing.T) {
	a, _, told := two(3, 0)
	a.out = []string{"x"}
	equal(t, "rounds", Pump(a, a, 9), 2)
	lists(t, "told", *told, []string{"a out x", "a in x", "a none", "a none", "a tick", "a tick", "a none", "a none", "a tick", "a tick"})
}

// source has frames to send in each turn, all of whose fields count. It is always idle.
type source struct {
	none
	turn  int // how many frames of each turn
	left  int
	count int
}

func (h *source) frame(i int) api.Frame {
	return api.Frame{Kind: i, Src: i + 1, Dst: i + 2, Prio: i + 3, Msg: uint64(i + 4), Off: i + 5, Len: i + 6, Total: i + 7, Num: i + 8, Data: []byte{byte(i)}}
}

func (h *source) Out() (api.Frame, bool) {
	if h.left == 0 {
		return api.Frame{}, false
	}
	h.left--
	h.count++
	return h.frame(h.count), true
}

func (h *source) Tick() { h.left = h.turn }

func (h *source) Idle() bool { return true }

// sink holds all that comes against what a source has.
type sink struct {
	none
	t     *testing.T
	from  *source
	count int
}

func (h *sink) In(f api.Frame) {
	h.count++
	want := h.from.frame(h.count)
	if !slices.Equal(f.Data, want.Data) {
		h.t.Fatalf("frame %d: got %v, want %v", h.count, f, want)
	}
	if f.Kind != want.Kind || f.Src != want.Src || f.Dst != want.Dst || f.Prio != want.Prio || f.Msg != want.Msg || f.Off != want.Off || f.Len != want.Len || f.Total != want.Total || f.Num != want.Num {
		h.t.Fatalf("frame %d: got %v, want %v", h.count, f, want)
	}
}

// TestP216Frames: each frame comes as it was sent, once, in order, up to the most that a host may send.
func TestP216Frames(t *testing.T) {
	for _, turn := range []int{0, 1, 7, 1000, 99999, 100000} {
		a := &source{turn: turn, left: turn}
		b := &sink{t: t, from: a}
		equal(t, "rounds", Pump(a, b, 3), 3)
		equal(t, "frames", b.count, 3*turn)
		a = &source{turn: turn, left: turn}
		b = &sink{t: t, from: a}
		equal(t, "rounds the other way", Pump(b, a, 3), 3)
		equal(t, "frames the other way", b.count, 3*turn)
	}
}

// TestP216Endless: what sends without end holds nobody up: a Pump ends, and the other one is asked, too.
func TestP216Endless(t *testing.T) {
	a, b := &source{left: -1, turn: -1}, &sink{t: t}
	b.from = a
	equal(t, "rounds", Pump(a, b, 2), 2)
	equal(t, "frames", b.count, 200000)
	a, c := &source{left: -1, turn: -1}, &breaks{}
	equal(t, "rounds the other way", Pump(c, a, 2), 2)
	equal(t, "frames the other way", a.count, 200000)
	equal(t, "ticks", c.ticks, 2)
}

// breaks panics at one call, from some tick on.
type breaks struct {
	none
	at    string
	ticks int
	sound int // how many ticks it is sound
}

func (h *breaks) step(at string) {
	if h.at == at && h.ticks >= h.sound {
		panic(at)
	}
}

func (h *breaks) In(f api.Frame) { h.step("in") }
func (h *breaks) Out() (api.Frame, bool) {
	h.step("out")
	return api.Frame{}, false
}
func (h *breaks) Idle() bool {
	h.step("idle")
	return false
}
func (h *breaks) Tick() {
	h.ticks++
	h.step("tick")
}

// TestP216Panic: of a host that panics as many rounds are done as were whole.
func TestP216Panic(t *testing.T) {
	for _, x := range []struct {
		at          string
		sound, done int
	}{
		{"in", 0, 0}, {"in", 3, 3}, {"out", 0, 0}, {"out", 3, 3}, {"idle", 0, 0}, {"idle", 3, 3}, {"tick", 0, 0}, {"tick", 1, 0}, {"tick", 4, 3}, {"never", 0, 5},
	} {
		equal(t, "panics first at "+x.at, Pump(&breaks{at: x.at, sound: x.sound}, &source{left: 1, turn: 1}, 5), x.done)
		equal(t, "panics second at "+x.at, Pump(&source{left: 1, turn: 1}, &breaks{at: x.at, sound: x.sound}, 5), x.done)
	}
}

// TestP216Nil: hosts that are nil, as interfaces and as pointers.
func TestP216Nil(t *testing.T) {
	a, _, told := two(3, 0)
	equal(t, "no hosts", Pump[Host, Host](nil, nil, 5), 0)
	equal(t, "no second", Pump[*teller, Host](a, nil, 5), 0)
	equal(t, "no first", Pump[Host, *teller](nil, a, 5), 0)
	equal(t, "nil pointers", Pump[*teller, *source](nil, nil, 5), 0)
	equal(t, "nil pointers as hosts", Pump[Host, Host]((*teller)(nil), (*source)(nil), 5), 0)
	equal(t, "no hosts, no rounds", Pump[Host, Host](nil, nil, 0), 0)
	equal(t, "ticks", a.ticks, 0)
	lists(t, "told", *told, []string{"a none"})
}

// TestP216Types: hosts of any two types: values, pointers, interfaces.
func TestP216Types(t *testing.T) {
	a, b, told := two(2, 0)
	equal(t, "values", Pump(none{}, none{}, 4), 4)
	equal(t, "a value, a pointer", Pump(none{}, a, 4), 4)
	equal(t, "interfaces", Pump[Host, Host](a, b, 4), 0)
	a, b, told = two(1, 0)
	a.out = []string{"x"}
	equal(t, "an interface, a pointer", Pump(Host(b), a, 4), 1)
	lists(t, "told", *told, []string{"b none", "a out x", "b in x", "a none", "b tick", "a tick"})
}
