package engine

import (
	"mizzen/api"
	"mizzen/wire"
)

// What is alike in the hosts of all three engines stands here once.

// CheckHost tells whether there is a host me of that engine, by that config.
func CheckHost(c api.Config, kind, me int) api.Errno {
	if Check(c) != api.OK || c.Engine != kind || !within(me, 0, c.Hosts-1) {
		return api.ErrArg
	}
	return api.OK
}

// IsOther tells whether there is such a host, and it is another one than me.
func IsOther(c api.Config, me, host int) bool {
	return within(host, 0, c.Hosts-1) && host != me
}

// Takes tells whether host me looks at a frame that comes: all others are passed over.
func Takes(c api.Config, me int, f api.Frame) bool {
	return wire.Check(f) == api.OK && f.Dst == me && IsOther(c, me, f.Src)
}
