package engine

import (
	"math"
	"math/big"
	"slices"
	"strconv"
	"testing"

	"mizzen/api"
)

// least is the config of an engine each number of which is the least that it may be.
func least(kind int) api.Config {
	c := api.Config{Engine: kind, Hosts: 2, Spines: 1, MTU: 20, K: 1, Queue: 184, Credits: 1, Tables: 1, Timeout: 10, Cap: 10, MaxID: 1}
	switch kind {
	case api.Homa:
		c.Budget = 20
	case api.NDP:
		c.Window = 1
	}
	return c
}

// most is likewise the one of the greatest.
func most(kind int) api.Config {
	c := api.Config{Engine: kind, Hosts: 8, Spines: 4, MTU: 1500, K: 8, Queue: 10000000, Credits: 100, Tables: 200, Timeout: 10000, Cap: 1000000, Retry: 1000, MaxID: 1 << 60}
	switch kind {
	case api.Homa:
		c.Window, c.Budget = 20000, 1000000
	case api.NDP:
		c.Window = 100
	}
	return c
}

var engines = []int{api.Homa, api.NDP, api.XPass}

// field is a number of a config, and from where to where it may go, as long as the others stand as they do.
type field struct {
	name      string
	at        func(c *api.Config) *int
	low, high func(c api.Config) int
}

// always is a limit that no other number has a part in.
func always(n int) func(c api.Config) int {
	return func(c api.Config) int { return n }
}

// fields goes by the chapter's sentence.
var fields = []field{
	{"Hosts", func(c *api.Config) *int { return &c.Hosts }, always(2), always(8)},
	{"Spines", func(c *api.Config) *int { return &c.Spines }, always(1), always(4)},
	{"MTU", func(c *api.Config) *int { return &c.MTU }, always(20), func(c api.Config) int {
		upto := min(1500, c.Queue/4-26)
		if c.Engine == api.Homa {
			upto = min(upto, c.Budget/c.K)
		}
		return upto
	}},
	{"K", func(c *api.Config) *int { return &c.K }, always(1), func(c api.Config) int {
		if c.Engine == api.Homa {
			return min(8, c.Budget/c.MTU)
		}
		return 8
	}},
	{"Tables", func(c *api.Config) *int { return &c.Tables }, always(1), always(200)},
	{"Timeout", func(c *api.Config) *int { return &c.Timeout }, always(10), func(c api.Config) int { return min(10000, c.Cap) }},
	{"Cap", func(c *api.Config) *int { return &c.Cap }, func(c api.Config) int { return c.Timeout }, always(1000000)},
	{"Retry", func(c *api.Config) *int { return &c.Retry }, always(0), always(1000)},
	{"Credits", func(c *api.Config) *int { return &c.Credits }, always(1), always(100)},
	{"Queue", func(c *api.Config) *int { return &c.Queue }, func(c api.Config) int { return 4*c.MTU + 104 }, always(10000000)},
	{"Window", func(c *api.Config) *int { return &c.Window }, func(c api.Config) int {
		return []int{api.Homa: 0, api.NDP: 1, api.XPass: 0}[c.Engine]
	}, func(c api.Config) int {
		return []int{api.Homa: 20000, api.NDP: 100, api.XPass: 0}[c.Engine]
	}},
	{"Budget", func(c *api.Config) *int { return &c.Budget }, func(c api.Config) int {
		return []int{api.Homa: c.K * c.MTU, api.NDP: 0, api.XPass: 0}[c.Engine]
	}, func(c api.Config) int {
		return []int{api.Homa: 1000000, api.NDP: 0, api.XPass: 0}[c.Engine]
	}},
}

// far are numbers that none of a config's may be.
var far = []int{math.MinInt, math.MinInt + 1, -1 << 62, -1 << 32, -1, 1 << 32, 1 << 60, 1 << 62, math.MaxInt/8 + 1, math.MaxInt/4 - 25, math.MaxInt - 26, math.MaxInt - 1, math.MaxInt}

// edges holds a config, and it with each number in turn at the ends of what it may be, and beyond them.
func edges(t *testing.T, c api.Config) {
	t.Helper()
	equal(t, "Check", Check(c), api.OK)
	for _, f := range fields {
		low, high := f.low(c), f.high(c)
		try := func(v int, want api.Errno) {
			d := c
			*f.at(&d) = v
			equal(t, "Check of "+f.name+" "+strconv.Itoa(v), Check(d), want)
		}
		try(low, api.OK)
		try(high, api.OK)
		try(low+(high-low)/2, api.OK)
		try(low-1, api.ErrArg)
		try(high+1, api.ErrArg)
		for _, v := range far {
			try(v, api.ErrArg)
		}
	}
	if t.Failed() {
		t.Fatalf("of %v", c)
	}
}

// drawn is a config that may be, its numbers at their ends, or between.
func (d *draws) drawn(kind int) api.Config {
	c := most(kind)
	for range 2 {
		for _, f := range fields {
			low, high := f.low(c), f.high(c)
			*f.at(&c) = []int{low, high, low + d.below(high-low+1), low + d.below(min(high-low, 9)+1)}[d.below(4)]
		}
	}
	return c
}

// TestP211Check: each number of a config, alone.
func TestP211Check(t *testing.T) {
	for _, kind := range engines {
		edges(t, least(kind))
		edges(t, most(kind))
	}
	d := draws(21)
	for i := range 3000 {
		edges(t, d.drawn(engines[i%3]))
	}
}

// TestP211MaxID: ids from 1 to 2^60.
func TestP211MaxID(t *testing.T) {
	for _, kind := range engines {
		c := least(kind)
		for _, id := range []uint64{1, 2, 1 << 31, 1<<60 - 1, 1 << 60} {
			c.MaxID = id
			equal(t, "Check", Check(c), api.OK)
		}
		for _, id := range []uint64{0, 1<<60 + 1, 1 << 63, math.MaxUint64} {
			c.MaxID = id
			equal(t, "Check", Check(c), api.ErrArg)
		}
	}
}

// TestP211Engine: no fourth engine, whatever else the config says.
func TestP211Engine(t *testing.T) {
	for _, kind := range engines {
		for _, c := range []api.Config{least(kind), most(kind)} {
			for _, other := range append([]int{0, 4, 5}, far...) {
				c.Engine = other
				equal(t, "Check of Engine "+strconv.Itoa(other), Check(c), api.ErrArg)
			}
		}
	}
	equal(t, "Check of an empty config", Check(api.Config{}), api.ErrArg)
}

// TestP211Apart: what one engine takes as Window and Budget another one does not.
func TestP211Apart(t *testing.T) {
	for _, x := range []struct {
		window, budget         int
		homaOK, ndpOK, xpassOK bool
	}{
		{0, 0, false, false, true}, {1, 0, false, true, false}, {100, 0, false, true, false}, {101, 0, false, false, false},
		{0, 20, true, false, false}, {1, 20, true, false, false}, {20000, 20, true, false, false}, {0, 19, false, false, false},
	} {
		for i, ok := range []bool{x.homaOK, x.ndpOK, x.xpassOK} {
			c := least(engines[i])
			c.Window, c.Budget = x.window, x.budget
			equal(t, "Check of engine "+strconv.Itoa(engines[i]), Check(c) == api.OK, ok)
		}
	}
}

// TestP211Pieces: chapter 6's count, of whatever config.
func TestP211Pieces(t *testing.T) {
	for _, x := range []struct{ mtu, total, want int }{
		{20, 0, 1}, {20, 1, 1}, {20, 20, 1}, {20, 21, 2}, {20, 40, 2}, {20, 41, 3}, {20, 20000, 1000}, {1500, 20000, 14}, {1500, 1500, 1}, {1500, 1501, 2},
		{20, 1 << 30, 53687092}, {20, 1<<30 + 1, 0}, {20, math.MaxInt, 0}, {20, -1, 0}, {20, math.MinInt, 0},
		{0, 5, 0}, {-1, 5, 0}, {math.MinInt, 5, 0}, {math.MaxInt, 5, 0}, {1, 5, 5}, {1 << 20, 5, 1}, {1<<20 + 1, 5, 0}, {0, 0, 0},
	} {
		c := least(api.XPass)
		c.MTU, c.Queue = x.mtu, 10000000
		equal(t, "Pieces of "+strconv.Itoa(x.total)+" by "+strconv.Itoa(x.mtu), Pieces(c, x.total), x.want)
		equal(t, "Pieces of no config but an MTU", Pieces(api.Config{MTU: x.mtu}, x.total), x.want)
	}
}

// slowBound goes by the chapter's sentence, with numbers that have no end: they are held at 2^50 where they are told.
func slowBound(c api.Config, totals []int, waiting int) int {
	sum := big.NewInt(2)
	for _, total := range totals {
		pieces := 0
		if total >= 0 && total <= 1<<30 {
			pieces = max(1, (total+c.MTU-1)/c.MTU)
		}
		sum.Add(sum, big.NewInt(int64(pieces)))
	}
	sum.Mul(sum, big.NewInt(int64(4*c.Cap+400)))
	waits := new(big.Int).Mul(big.NewInt(int64(max(0, waiting))), big.NewInt(40))
	sum.Add(sum, waits)
	if end := big.NewInt(1 << 50); sum.Cmp(end) > 0 {
		return 1 << 50
	}
	return int(sum.Int64())
}

// TestP211Bound: a few, worked out by hand.
func TestP211Bound(t *testing.T) {
	c := least(api.NDP) // 440 turns a piece
	for _, x := range []struct {
		totals  []int
		waiting int
		want    int
	}{
		{nil, 0, 880}, {[]int{}, 0, 880}, {[]int{0}, 0, 1320}, {[]int{20}, 0, 1320}, {[]int{21}, 0, 1760}, {[]int{41, 0, 1}, 0, 3080},
		{nil, 1, 920}, {nil, 7, 1160}, {nil, -1, 880}, {nil, math.MinInt, 880}, {[]int{-1}, 3, 1000}, {[]int{math.MaxInt, math.MinInt, 1<<30 + 1, 5}, 0, 1320},
		{nil, math.MaxInt, 1 << 50}, {nil, 1 << 50, 1 << 50}, {nil, 1 << 45, 1 << 50}, {nil, 1 << 44, 40<<44 + 880},
	} {
		equal(t, "Bound", Bound(c, x.totals, x.waiting), x.want)
	}
	c.Cap = 1000000
	equal(t, "Bound of the greatest Cap", Bound(c, []int{20}, 0), 12001200)
}

// TestP211BoundEnd: nothing runs over.
func TestP211BoundEnd(t *testing.T) {
	c := most(api.Homa)
	c.MTU = 20
	for count := range 12 {
		totals := slices.Repeat([]int{1 << 30}, count)
		for _, waiting := range append([]int{0, 1 << 43, 1 << 44, 1 << 45}, far...) {
			equal(t, "Bound of "+strconv.Itoa(count), Bound(c, totals, waiting), slowBound(c, totals, waiting))
		}
	}
	// Of so many the product would run over 64 digits, to below 0 and beyond.
	for _, count := range []int{43000, 50000, 60000, 90000, 1000000} {
		equal(t, "Bound of "+strconv.Itoa(count), Bound(c, slices.Repeat([]int{1 << 30}, count), 0), 1<<50)
	}
}

// TestP211BoundDrawn: of drawn configs and messages, against the slow way.
func TestP211BoundDrawn(t *testing.T) {
	d := draws(5)
	for i := range 3000 {
		c := d.drawn(engines[i%3])
		var totals []int
		for range d.below(6) {
			totals = append(totals, []int{d.below(20001), d.below(c.MTU * 3), c.MTU * d.below(5), -d.below(9), d.below(1 << 31)}[d.below(5)])
		}
		waiting := d.below(1<<d.below(31)+1) - 1
		equal(t, "Bound", Bound(c, totals, waiting), slowBound(c, totals, waiting))
		if t.Failed() {
			t.Fatalf("of %v, %v, %d", c, totals, waiting)
		}
	}
}

// TestP211BoundNone: 0 of a config that may not be, whatever else is told.
func TestP211BoundNone(t *testing.T) {
	for _, kind := range engines {
		for _, f := range fields {
			c := most(kind)
			for _, v := range []int{f.low(c) - 1, f.high(c) + 1, math.MinInt, math.MaxInt} {
				d := c
				*f.at(&d) = v
				equal(t, "Bound of a bad "+f.name, Bound(d, []int{5, 6}, 7), 0)
			}
		}
	}
	equal(t, "Bound of an empty config", Bound(api.Config{}, []int{5}, math.MaxInt), 0)
}

// TestP217Bound: what is handed in stands as it was, its spare room, too.
func TestP217Bound(t *testing.T) {
	room := []int{21, 0, -4, 7, 8}
	was := slices.Clone(room)
	first := Bound(least(api.XPass), room[:3], 2)
	lists(t, "handed in", room, was)
	equal(t, "again", Bound(least(api.XPass), room[:3], 2), first)
}
