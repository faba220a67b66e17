package ids

import (
	"math"
	"testing"

	"mizzen/api"
)

const top = 1 << 60

func equal[T comparable](t *testing.T, what string, got, want T) {
	t.Helper()
	if got != want {
		t.Errorf("%s: got %v, want %v", what, got, want)
	}
}

// giver is one that NewGiver made.
func giver(t *testing.T, last uint64) *Giver {
	t.Helper()
	g, e := NewGiver(last)
	if g == nil || e != api.OK {
		t.Fatalf("NewGiver(%d): got %v, %v", last, g, e)
	}
	return g
}

// gives holds that id comes next.
func gives(t *testing.T, g *Giver, id uint64) {
	t.Helper()
	got, e := g.Next()
	equal(t, "Next", got, id)
	equal(t, "error of Next", e, api.OK)
	equal(t, "Last", g.Last(), id)
}

// isSpent holds that nothing comes any more, since last did.
func isSpent(t *testing.T, g *Giver, last uint64) {
	t.Helper()
	for range 3 {
		got, e := g.Next()
		equal(t, "Next beside an error", got, 0)
		equal(t, "error of Next", e, api.ErrSpent)
		equal(t, "Last", g.Last(), last)
	}
}

func TestP91NewGiver(t *testing.T) {
	for _, last := range []uint64{0, top + 1, top + 2, 1 << 61, 1 << 63, math.MaxInt64, math.MaxUint64} {
		g, e := NewGiver(last)
		equal(t, "error", e, api.ErrArg)
		equal(t, "beside an error", g, nil)
	}
	for _, last := range []uint64{1, 2, 3, 1000, math.MaxInt32, math.MaxUint32 + 1, top - 1, top} {
		g := giver(t, last)
		equal(t, "Last of a new one", g.Last(), 0)
		gives(t, g, 1)
	}
}

func TestP91Next(t *testing.T) {
	for _, last := range []uint64{1, 2, 3, 10, 1000} {
		g := giver(t, last)
		for id := uint64(1); id <= last; id++ {
			gives(t, g, id)
		}
		isSpent(t, g, last)
	}
}

// TestP91Greatest: nobody can wait for the last of all numbers, so the giver is put on ahead of it.
func TestP91Greatest(t *testing.T) {
	g := giver(t, top)
	g.given = top - 2
	gives(t, g, top-1)
	gives(t, g, top)
	isSpent(t, g, top)
}

// TestP91Own: two givers have nothing in common.
func TestP91Own(t *testing.T) {
	g, h := giver(t, 2), giver(t, 3)
	gives(t, g, 1)
	gives(t, g, 2)
	equal(t, "Last of the other one", h.Last(), 0)
	gives(t, h, 1)
	isSpent(t, g, 2)
	gives(t, h, 2)
	gives(t, h, 3)
}

func TestP93NoGiver(t *testing.T) {
	isSpent(t, nil, 0)
	isSpent(t, &Giver{}, 0)
}
