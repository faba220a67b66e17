package engine

import (
	"mizzen/api"
	"mizzen/num"
	"mizzen/segm"
	"mizzen/wire"
)

// What a config may have. What is not here stands in api.
const (
	leastHosts   = 2
	mostSpines   = 4
	mostK        = 8
	mostTables   = 200
	leastTimeout = 10
	mostTimeout  = 10000
	mostCap      = 1000000
	mostRetry    = 1000
	mostID       = 1 << 60
	mostCredits  = 100
	// queueFrames is how many frames, of the greatest there are, a port has room for at least.
	queueFrames = 4
	mostQueue   = 10000000
	// mostPieces is how many pieces of a message go at once at most, of NDP.
	mostPieces = 100
	mostBudget = 1000000
)

// What Bound counts.
const (
	// Of each piece so many times Cap, and so many turns more.
	boundCaps  = 4
	boundTurns = 400
	// So many pieces more than all messages have.
	boundPieces = 2
	// So many turns of each that waits.
	boundWaiting = 40
)

// within tells whether v is one from low to high.
func within(v, low, high int) bool {
	return low <= v && v <= high
}

// hasNet tells whether there may be such hosts and ports.
func hasNet(c api.Config) bool {
	if !within(c.Hosts, leastHosts, api.MaxHosts) || !within(c.Spines, 1, mostSpines) || !within(c.MTU, api.MinMTU, api.MaxMTU) {
		return false
	}
	// Only of an MTU that may be: of others the least room might run over.
	return within(c.Queue, queueFrames*(wire.Head+c.MTU), mostQueue) && within(c.Credits, 1, mostCredits)
}

// hasTables tells whether so many messages may be kept, with such ids.
func hasTables(c api.Config) bool {
	return within(c.Tables, 1, mostTables) && 1 <= c.MaxID && c.MaxID <= mostID
}

// hasTries tells whether it may be tried again so often, and so late.
func hasTries(c api.Config) bool {
	return within(c.Timeout, leastTimeout, mostTimeout) && within(c.Cap, c.Timeout, mostCap) && within(c.Retry, 0, mostRetry)
}

// hasPace tells whether so much may go unasked, and be granted, of its engine. Its MTU may be.
func hasPace(c api.Config) bool {
	if !within(c.K, 1, mostK) {
		return false
	}
	switch c.Engine {
	case api.Homa:
		return within(c.Window, 0, api.MaxMsg) && within(c.Budget, c.K*c.MTU, mostBudget)
	case api.NDP:
		return within(c.Window, 1, mostPieces) && c.Budget == 0
	case api.XPass:
		return c.Window == 0 && c.Budget == 0
	}
	return false
}

// Check tells whether a config may be.
func Check(c api.Config) api.Errno {
	if hasNet(c) && hasTables(c) && hasTries(c) && hasPace(c) {
		return api.OK
	}
	return api.ErrArg
}

// Pieces is how many a message has.
func Pieces(c api.Config, total int) int {
	return segm.Count(total, c.MTU)
}

// Bound is within how many turns all ends.
func Bound(c api.Config, totals []int, waiting int) int {
	if Check(c) != api.OK {
		return 0
	}
	pieces := boundPieces
	for _, total := range totals {
		pieces = num.Add(pieces, Pieces(c, total))
	}
	turns := num.Add(num.Mul(boundCaps, c.Cap), boundTurns)
	return num.Add(num.Mul(turns, pieces), num.Mul(boundWaiting, waiting))
}
