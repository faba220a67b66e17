package peer

import (
	"bytes"
	"math"
	"slices"
	"testing"

	"mizzen/api"
)

const (
	// many is the most messages that may be kept, and long the most bytes that one may have.
	many = 10000
	long = 20000
	// end is the greatest id.
	end = 1 << 60
)

// noHosts are numbers that no host has.
var noHosts = []int{math.MinInt, -1 << 40, -8, -1, 8, 9, 1 << 40, math.MaxInt}

// limits are pairs of a most and a maxMsg, and whether they may be.
var limits = []struct {
	most, maxMsg int
	may          bool
}{
	{1, 0, true}, {many, long, true}, {1, long, true}, {many, 0, true}, {5, 7, true},
	{0, 5, false}, {-1, 5, false}, {many + 1, 5, false}, {math.MinInt, 5, false}, {math.MaxInt, 5, false},
	{5, -1, false}, {5, long + 1, false}, {5, math.MinInt, false}, {5, math.MaxInt, false}, {0, -1, false},
}

func equal[T comparable](t *testing.T, what string, got, want T) {
	t.Helper()
	if got != want {
		t.Errorf("%s: got %v, want %v", what, got, want)
	}
}

func lists[T comparable](t *testing.T, what string, got, want []T) {
	t.Helper()
	if !slices.Equal(got, want) {
		t.Errorf("%s: got %v, want %v", what, got, want)
	}
}

// draws is a rule for numbers.
type draws uint64

func (d *draws) below(n int) int {
	*d = *d*6364136223846793005 + 1442695040888963407
	return int(uint64(*d)>>33) % n
}

// bytesOf is the bytes of a message: those of two messages differ mostly.
func bytesOf(src int, id uint64, total int) []byte {
	d := draws(uint64(src)<<50 + id)
	data := make([]byte, total)
	for i := range data {
		data[i] = byte('a' + d.below(26))
	}
	return data
}

// guarded is the same bytes in memory that goes on behind them, and what holds that all of that memory is as it was.
func guarded(data []byte) (again []byte, held func(t *testing.T)) {
	whole := append(append([]byte("<"), data...), ">>>>"...)
	was := bytes.Clone(whole)
	return whole[1 : 1+len(data)], func(t *testing.T) {
		t.Helper()
		if !bytes.Equal(whole, was) {
			t.Errorf("what was handed in is %q now, and was %q", whole, was)
		}
	}
}

// spoil writes over all of a list, and its spare room.
func spoil[T any](list []T, with T) {
	list = list[:cap(list)]
	for i := range list {
		list[i] = with
	}
}

func TestP201IsHost(t *testing.T) {
	for host := range api.MaxHosts {
		equal(t, "isHost", isHost(host), true)
	}
	for _, host := range noHosts {
		equal(t, "isHost of none", isHost(host), false)
	}
}
