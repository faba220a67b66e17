package topo

import (
	"strconv"
)

// group is which of the groups of ports one is of.
type group int

const (
	noGroup group = iota
	hostUp
	leafDown
	leafUp
	spineDown
)

// way is a port by what it leads from, and what to; its group tells of which kind these two are.
type way struct {
	group group
	from  int
	to    int
}

// The numbers of ports: where one group would go on, the next one begins.

func hostToLeaf(host int) int {
	return host
}

func (n *Net) leafToHost(host int) int {
	return n.hosts + host
}

func (n *Net) leafToSpine(leaf, spine int) int {
	return n.leafToHost(n.hosts) + leaf*n.spines + spine
}

func (n *Net) spineToLeaf(spine, leaf int) int {
	return n.leafToSpine(n.Leaves(), 0) + spine*n.Leaves() + leaf
}

// way is the port with that number; of noGroup, if there is none.
func (n *Net) way(port int) way {
	if port < 0 || port >= n.Ports() {
		return way{}
	}
	if first := n.spineToLeaf(0, 0); port >= first {
		k := port - first
		return way{spineDown, k / n.Leaves(), k % n.Leaves()}
	}
	if first := n.leafToSpine(0, 0); port >= first {
		k := port - first
		return way{leafUp, k / n.spines, k % n.spines}
	}
	if first := n.leafToHost(0); port >= first {
		host := port - first
		return way{leafDown, leafOf(host), host}
	}
	return way{hostUp, port, leafOf(port)}
}

// Name is a port's.
func (n *Net) Name(port int) string {
	w := n.way(port)
	from, to := strconv.Itoa(w.from), strconv.Itoa(w.to)
	switch w.group {
	case hostUp:
		return "h" + from
	case leafDown:
		return "l" + from + "-h" + to
	case leafUp:
		return "l" + from + "-s" + to
	case spineDown:
		return "s" + from + "-l" + to
	}
	return ""
}
