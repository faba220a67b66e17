package num

import (
	"math"
	"math/big"
	"testing"

	"mizzen/api"
)

const top = api.MaxTime

// Kinds of one's own: the constraint takes what is made of each kind.
type (
	ticks  int
	small  int32
	wide   int64
	count  uint32
	number uint64
)

// edges are numbers at which something turns: 0, the powers of 2 that the chapter names, those at which halves meet, and the ends of int.
func edges() []int {
	l := []int{0, 3, 7, 43690, 65535, 65537, 98304, 1000003, 123456789, 987654321987, 1<<49 + 12345, math.MaxInt, math.MinInt, math.MinInt + 1, math.MaxInt - 1}
	for _, digits := range []int{0, 1, 8, 15, 16, 17, 24, 25, 26, 32, 33, 34, 35, 40, 41, 42, 48, 49, 50, 51, 61, 62} {
		for _, more := range []int{-1, 0, 1} {
			l = append(l, 1<<digits+more, -(1<<digits)+more)
		}
	}
	return l
}

func equal[T comparable](t *testing.T, what string, got, want T) {
	t.Helper()
	if got != want {
		t.Errorf("%s: got %v, want %v", what, got, want)
	}
}

// bigHeld is n within 0 to 2^50.
func bigHeld(n *big.Int) *big.Int {
	most := new(big.Int).Lsh(big.NewInt(1), 50)
	switch {
	case n.Sign() < 0:
		return new(big.Int)
	case n.Cmp(most) > 0:
		return most
	}
	return new(big.Int).Set(n)
}

func bigOf(n int) *big.Int { return bigHeld(big.NewInt(int64(n))) }

// same holds an int against a number that can't run over.
func same(t *testing.T, what string, a, b, got int, want *big.Int) {
	t.Helper()
	if big.NewInt(int64(got)).Cmp(want) != 0 {
		t.Errorf("%s of %d, %d: got %d, want %s", what, a, b, got, want)
	}
}

// pairs calls each with every two of edges.
func pairs(each func(a, b int)) {
	l := edges()
	for _, a := range l {
		for _, b := range l {
			each(a, b)
		}
	}
}

func TestP11MinMax(t *testing.T) {
	equal(t, "Min of one", Min(7), 7)
	equal(t, "Max of one", Max(7), 7)
	equal(t, "Min, first", Min(-1, 2, 3), -1)
	equal(t, "Min, middle", Min(3, 1, 2), 1)
	equal(t, "Min, last", Min(3, 2, 1), 1)
	equal(t, "Max, first", Max(3, 2, 1), 3)
	equal(t, "Max, middle", Max(1, 3, 2), 3)
	equal(t, "Max, last", Max(1, 2, 3), 3)
	equal(t, "Min, all alike", Min(5, 5, 5), 5)
	equal(t, "Max, all alike", Max(5, 5, 5), 5)
	equal(t, "Max, all below 0", Max(-3, -2, -9), -2)
	equal(t, "Min, all above 0", Min(3, 2, 9), 2)
	equal(t, "Min of the ends", Min(0, math.MaxInt, math.MinInt), math.MinInt)
	equal(t, "Max of the ends", Max(0, math.MaxInt, math.MinInt), math.MaxInt)
	equal(t, "Min of none more", Min(4, []int{}...), 4)
	equal(t, "Max of nil more", Max(4, []int(nil)...), 4)
}

func TestP11Clamp(t *testing.T) {
	equal(t, "within", Clamp(2, 1, 3), 2)
	equal(t, "at low", Clamp(1, 1, 3), 1)
	equal(t, "at high", Clamp(3, 1, 3), 3)
	equal(t, "below", Clamp(0, 1, 3), 1)
	equal(t, "above", Clamp(4, 1, 3), 3)
	equal(t, "low is high", Clamp(9, 2, 2), 2)
	equal(t, "least int", Clamp(math.MinInt, -1, 1), -1)
	equal(t, "greatest int", Clamp(math.MaxInt, -1, 1), 1)
	equal(t, "all of int", Clamp(5, math.MinInt, math.MaxInt), 5)
	equal(t, "low above high, v below both", Clamp(0, 3, 1), 3)
	equal(t, "low above high, v between", Clamp(2, 3, 1), 3)
	equal(t, "low above high, v at high", Clamp(1, 3, 1), 3)
	equal(t, "low above high, v at low", Clamp(3, 3, 1), 1)
	equal(t, "low above high, v above both", Clamp(4, 3, 1), 1)
}

func TestP11Kinds(t *testing.T) {
	equal(t, "int32", Min[int32](math.MaxInt32, math.MinInt32), math.MinInt32)
	equal(t, "int64", Max[int64](math.MinInt64, math.MaxInt64), math.MaxInt64)
	equal(t, "uint32", Max[uint32](0, math.MaxUint32), math.MaxUint32)
	equal(t, "uint64, least", Min[uint64](math.MaxUint64, 1<<63, 1), 1)
	equal(t, "uint64, greatest", Max[uint64](1, math.MaxUint64, 1<<63), math.MaxUint64)
	equal(t, "uint64 within", Clamp[uint64](1<<63, 1, math.MaxUint64), 1<<63)
	equal(t, "uint64 above", Clamp[uint64](math.MaxUint64, 0, 1<<63), 1<<63)
	equal(t, "uint64 below", Clamp[uint64](0, 1<<63, math.MaxUint64), 1<<63)
	equal(t, "uint32, low above high", Clamp[uint32](2, 3, 1), 3)
	equal(t, "int32 below", Clamp[int32](math.MinInt32, -5, 5), -5)
	equal(t, "int64 above", Clamp[int64](math.MaxInt64, -5, 5), 5)
	equal(t, "of int", Min(ticks(4), ticks(-4)), ticks(-4))
	equal(t, "of int32", Max(small(4), small(-4)), small(4))
	equal(t, "of int64", Clamp(wide(9), wide(-4), wide(4)), wide(4))
	equal(t, "of uint32", Min(count(4), count(math.MaxUint32)), count(4))
	equal(t, "of uint64", Max(number(4), number(math.MaxUint64)), number(math.MaxUint64))
}

func TestP11LeavesArguments(t *testing.T) {
	l := []int{3, 1, 2}
	Min(9, l...)
	Max(0, l...)
	equal(t, "what was handed in", [3]int(l), [3]int{3, 1, 2})
}

func TestP12Examples(t *testing.T) {
	equal(t, "Add", Add(3, 4), 7)
	equal(t, "Add below 0", Add(-5, 3), 3)
	equal(t, "Add to T", Add(top-1, 1), top)
	equal(t, "Add beyond T", Add(top, 1), top)
	equal(t, "Add of the greatest", Add(math.MaxInt, math.MaxInt), top)
	equal(t, "Add of the least", Add(math.MinInt, math.MinInt), 0)
	equal(t, "Sub", Sub(7, 4), 3)
	equal(t, "Sub below 0", Sub(3, 4), 0)
	equal(t, "Sub of one below 0", Sub(5, -9), 5)
	equal(t, "Sub of more than T", Sub(math.MaxInt, top-1), 1)
	equal(t, "Sub of the ends", Sub(math.MinInt, math.MaxInt), 0)
	equal(t, "Sub of the other ends", Sub(math.MaxInt, math.MinInt), top)
	equal(t, "Mul", Mul(3, 4), 12)
	equal(t, "Mul to T", Mul(1<<25, 1<<25), top)
	equal(t, "Mul to less than T", Mul(1<<25+1, 1<<25-1), top-1)
	equal(t, "Mul beyond T", Mul(1<<25+1, 1<<25), top)
	equal(t, "Mul to 2^64", Mul(1<<32, 1<<32), top)
	equal(t, "Mul of the greatest", Mul(math.MaxInt, math.MaxInt), top)
	equal(t, "Mul by 0", Mul(math.MaxInt, 0), 0)
	equal(t, "Mul below 0", Mul(-3, -4), 0)
}

func TestP12Pairs(t *testing.T) {
	pairs(func(a, b int) {
		x, y := bigOf(a), bigOf(b)
		same(t, "Add", a, b, Add(a, b), bigHeld(new(big.Int).Add(x, y)))
		same(t, "Sub", a, b, Sub(a, b), bigHeld(new(big.Int).Sub(x, y)))
		same(t, "Mul", a, b, Mul(a, b), bigHeld(new(big.Int).Mul(x, y)))
	})
}

// quotient is what Div and Part answer, in one.
type quotient struct {
	n int
	e api.Errno
}

func div(a, b int) quotient {
	n, e := Div(a, b)
	return quotient{n, e}
}

func part(a, b int) quotient {
	f, e := Part(a, b)
	return quotient{int(f), e}
}

func TestP12Div(t *testing.T) {
	refused := quotient{0, api.ErrArg}
	equal(t, "cut", div(7, 2), quotient{3, api.OK})
	equal(t, "even", div(8, 2), quotient{4, api.OK})
	equal(t, "by 1", div(9, 1), quotient{9, api.OK})
	equal(t, "0", div(0, 5), quotient{0, api.OK})
	equal(t, "below 0", div(-7, 2), quotient{0, api.OK})
	equal(t, "the least", div(math.MinInt, 1), quotient{0, api.OK})
	equal(t, "beyond T", div(math.MaxInt, 1), quotient{top, api.OK})
	equal(t, "beyond T, halved", div(top+9, 2), quotient{top / 2, api.OK})
	equal(t, "T by T", div(top, top), quotient{1, api.OK})
	equal(t, "by more than T", div(top, top+1), quotient{0, api.OK})
	equal(t, "by the greatest", div(math.MaxInt, math.MaxInt), quotient{0, api.OK})
	equal(t, "by 0", div(7, 0), refused)
	equal(t, "by -1", div(7, -1), refused)
	equal(t, "0 by 0", div(0, 0), refused)
	equal(t, "ends by ends", div(math.MinInt, -1), refused)
	equal(t, "by the least", div(5, math.MinInt), refused)
	pairs(func(a, b int) {
		got := div(a, b)
		if b < 1 {
			equal(t, "b below 1", got, refused)
			return
		}
		equal(t, "error", got.e, api.OK)
		same(t, "Div", a, b, got.n, new(big.Int).Quo(bigOf(a), big.NewInt(int64(b))))
	})
}

func TestP13Of(t *testing.T) {
	equal(t, "0", Of(0), 0)
	equal(t, "1", Of(1), 65536)
	equal(t, "3", Of(3), 196608)
	equal(t, "-1", Of(-1), 0)
	equal(t, "the least", Of(math.MinInt), 0)
	equal(t, "below 2^34", Of(1<<34-1), top-65536)
	equal(t, "2^34", Of(1<<34), top)
	equal(t, "above 2^34", Of(1<<34+1), top)
	equal(t, "the greatest", Of(math.MaxInt), top)
}

func TestP13Part(t *testing.T) {
	refused := quotient{0, api.ErrArg}
	equal(t, "half", part(1, 2), quotient{32768, api.OK})
	equal(t, "cut", part(2, 3), quotient{43690, api.OK})
	equal(t, "above 1", part(3, 2), quotient{98304, api.OK})
	equal(t, "0", part(0, 7), quotient{0, api.OK})
	equal(t, "too little", part(1, 65537), quotient{0, api.OK})
	equal(t, "the least Fix", part(1, 65536), quotient{1, api.OK})
	equal(t, "2^34", part(1<<34, 1), quotient{top, api.OK})
	equal(t, "2^34 by the greatest", part(1<<34, math.MaxInt), quotient{0, api.OK})
	equal(t, "2^34 by T", part(1<<34, top), quotient{1, api.OK})
	equal(t, "above 2^34", part(1<<34+1, 1), refused)
	equal(t, "above 2^34, by much", part(1<<34+1, math.MaxInt), refused)
	equal(t, "the greatest", part(math.MaxInt, 1), refused)
	equal(t, "by 0", part(5, 0), refused)
	equal(t, "0 by 0", part(0, 0), refused)
	equal(t, "a below 0", part(-1, 2), refused)
	equal(t, "b below 0", part(1, -2), refused)
	equal(t, "both below 0", part(-1, -2), refused)
	equal(t, "ends", part(math.MinInt, -1), refused)
	pairs(func(a, b int) {
		got := part(a, b)
		if a < 0 || b < 1 || a > 1<<34 {
			equal(t, "what may not be", got, refused)
			return
		}
		equal(t, "error", got.e, api.OK)
		scaled := new(big.Int).Lsh(big.NewInt(int64(a)), 16)
		same(t, "Part", a, b, got.n, scaled.Quo(scaled, big.NewInt(int64(b))))
	})
}

func TestP13Examples(t *testing.T) {
	const half = Fix(32768)
	equal(t, "half of 7", half.Times(7), 3)
	equal(t, "half of -7", half.Times(-7), 0)
	equal(t, "half of the greatest", half.Times(math.MaxInt), top/2)
	equal(t, "the least Fix of T", Fix(1).Times(top), 1<<34)
	equal(t, "the least Fix of 65535", Fix(1).Times(65535), 0)
	equal(t, "the greatest of 2^34", Of(1<<34).Times(1<<34), top)
	equal(t, "1 of T", Of(1).Times(top), top)
	equal(t, "more than 1 of T", (Of(1) + 1).Times(top), top)
	equal(t, "less than 1 of T", (Of(1) - 1).Times(top), top-1<<34)
	equal(t, "one below 0", Fix(-9).Times(5), 0)
	equal(t, "one above T", Fix(math.MaxInt).Times(1), 1<<34)
	equal(t, "half and half", half.Plus(half), 65536)
	equal(t, "T and T", Fix(top).Plus(Fix(top)), top)
	equal(t, "greatest and greatest", Fix(math.MaxInt).Plus(math.MaxInt), top)
	equal(t, "below 0, both", Fix(-5).Plus(-6), 0)
	equal(t, "below 0, one", Fix(-5).Plus(6), 6)
	equal(t, "half by half", half.By(half), 16384)
	equal(t, "cut by", Fix(255).By(256), 0)
	equal(t, "not cut by", Fix(256).By(256), 1)
	equal(t, "much by much", Of(1<<30).By(Of(1<<30)), top)
	equal(t, "one below 0 by", Fix(-4).By(Of(4)), 0)
	equal(t, "by one below 0", Of(4).By(-4), 0)
	equal(t, "whole", Of(5).Int(), 5)
	equal(t, "half, cut", half.Int(), 0)
	equal(t, "nearly 2", (Of(2) - 1).Int(), 1)
	equal(t, "whole, below 0", Fix(-1).Int(), 0)
	equal(t, "whole, the least", Fix(math.MinInt).Int(), 0)
	equal(t, "whole, above T", Fix(math.MaxInt).Int(), 1<<34)
}

func TestP13Pairs(t *testing.T) {
	pairs(func(a, b int) {
		x, y := bigOf(a), bigOf(b)
		scaled := new(big.Int).Mul(x, y)
		scaled = bigHeld(scaled.Rsh(scaled, 16))
		same(t, "Times", a, b, Fix(a).Times(b), scaled)
		same(t, "By", a, b, int(Fix(a).By(Fix(b))), scaled)
		same(t, "Plus", a, b, int(Fix(a).Plus(Fix(b))), bigHeld(new(big.Int).Add(x, y)))
	})
	for _, a := range edges() {
		same(t, "Of", a, 0, int(Of(a)), bigHeld(new(big.Int).Lsh(big.NewInt(int64(a)), 16)))
		same(t, "Int", a, 0, Fix(a).Int(), new(big.Int).Rsh(bigOf(a), 16))
	}
}

// TestP14NothingRunsOver steps through many more numbers than the edges, by a rule that hits all lengths and both signs.
func TestP14NothingRunsOver(t *testing.T) {
	next := uint64(1)
	draw := func() int {
		next = next*6364136223846793005 + 1442695040888963407
		return int(next) >> (next >> 20 & 63)
	}
	for range 100000 {
		a, b := draw(), draw()
		x, y := bigOf(a), bigOf(b)
		full := new(big.Int).Mul(x, y)
		same(t, "Mul", a, b, Mul(a, b), bigHeld(full))
		scaled := bigHeld(full.Rsh(full, 16))
		same(t, "Times", a, b, Fix(a).Times(b), scaled)
		same(t, "By", a, b, int(Fix(a).By(Fix(b))), scaled)
	}
}

func TestP14WithinLimits(t *testing.T) {
	pairs(func(a, b int) {
		f, g := Fix(a), Fix(b)
		quotient, _ := Div(a, b)
		ratio, _ := Part(a, b)
		all := []int{Add(a, b), Sub(a, b), Mul(a, b), quotient, int(Of(a)), int(ratio), f.Times(b), int(f.Plus(g)), int(f.By(g)), f.Int()}
		for i, n := range all {
			if n < 0 || n > top {
				t.Errorf("call %d of %d, %d: %d is out of its limits", i, a, b, n)
			}
		}
	})
}
