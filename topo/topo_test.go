package topo

import (
	"fmt"
	"math"
	"slices"
	"strings"
	"testing"

	"mizzen/api"
)

func equal[T comparable](t *testing.T, what string, got, want T) {
	t.Helper()
	if got != want {
		t.Errorf("%s: got %v, want %v", what, got, want)
	}
}

// made is one.
func made(t *testing.T, hosts, spines int) *Net {
	t.Helper()
	n, e := New(hosts, spines)
	if n == nil || e != api.OK {
		t.Fatalf("New(%d, %d): got %v, %v", hosts, spines, n, e)
	}
	return n
}

// each does something with each net that there may be, with its leaves by the list of their hosts.
func each(t *testing.T, do func(t *testing.T, n *Net, leaves [][]int, spines int)) {
	t.Helper()
	all := [][]int{{0, 1}, {2, 3}, {4, 5}, {6, 7}}
	for hosts := 2; hosts <= 8; hosts++ {
		var leaves [][]int
		for _, l := range all {
			if l[0] < hosts {
				leaves = append(leaves, l[:min(2, hosts-l[0])])
			}
		}
		for spines := 1; spines <= 4; spines++ {
			t.Run(fmt.Sprint(hosts, " hosts, ", spines, " spines"), func(t *testing.T) {
				do(t, made(t, hosts, spines), leaves, spines)
			})
		}
	}
}

// names are those of all ports, by their numbers.
func names(leaves [][]int, spines int) []string {
	var up, down, toSpines, toLeaves []string
	for l, hosts := range leaves {
		for _, h := range hosts {
			up = append(up, fmt.Sprint("h", h))
			down = append(down, fmt.Sprint("l", l, "-h", h))
		}
		for s := range spines {
			toSpines = append(toSpines, fmt.Sprint("l", l, "-s", s))
		}
	}
	for s := range spines {
		for l := range leaves {
			toLeaves = append(toLeaves, fmt.Sprint("s", s, "-l", l))
		}
	}
	return slices.Concat(up, down, toSpines, toLeaves)
}

// at is the leaf of a host; -1.
func at(leaves [][]int, host int) int {
	return slices.IndexFunc(leaves, func(hosts []int) bool { return slices.Contains(hosts, host) })
}

// outside are numbers of which there is none, where there are so many.
func outside(count int) []int {
	return []int{math.MinInt, -1 << 32, -count, -2, -1, count, count + 1, count + 8, 1 << 32, 1<<32 + 1, math.MaxInt}
}

func TestP141New(t *testing.T) {
	for hosts := -20; hosts <= 40; hosts++ {
		for spines := -20; spines <= 40; spines++ {
			want := api.ErrArg
			if hosts >= 2 && hosts <= 8 && spines >= 1 && spines <= 4 {
				want = api.OK
			}
			n, e := New(hosts, spines)
			if e != want || (n != nil) != (want == api.OK) {
				t.Errorf("New(%d, %d): got %v, %v, want %v", hosts, spines, n, e, want)
			}
		}
	}
	for _, far := range []int{math.MinInt, -1 << 32, 1 << 32, 1<<32 + 2, math.MaxInt} {
		for _, c := range [][2]int{{far, 1}, {2, far}, {far, far}, {far, -far}} {
			n, e := New(c[0], c[1])
			equal(t, "error", e, api.ErrArg)
			equal(t, "beside an error", n, nil)
		}
	}
}

// TestP141Example: the chapter's.
func TestP141Example(t *testing.T) {
	n := made(t, 4, 1)
	equal(t, "Ports", n.Ports(), 4+4+2+2)
	equal(t, "Leaves", n.Leaves(), 2)
}

// TestP141OneLeaf: a net of one leaf has ways to spines, too, though nobody needs them.
func TestP141OneLeaf(t *testing.T) {
	n := made(t, 2, 4)
	equal(t, "Leaves", n.Leaves(), 1)
	equal(t, "Ports", n.Ports(), 2+2+4+4)
	equal(t, "Name", n.Name(11), "s3-l0")
}

func TestP141Hosts(t *testing.T) {
	each(t, func(t *testing.T, n *Net, leaves [][]int, spines int) {
		equal(t, "Leaves", n.Leaves(), len(leaves))
		hosts := 0
		for l, of := range leaves {
			for _, h := range of {
				equal(t, "Leaf", n.Leaf(h), l)
				equal(t, "Up", n.Up(h), h)
				equal(t, "its name", n.Name(n.Up(h)), fmt.Sprint("h", h))
				hosts++
			}
		}
		for _, h := range outside(hosts) {
			equal(t, "Leaf of none", n.Leaf(h), -1)
			equal(t, "Up of none", n.Up(h), -1)
		}
	})
}

func TestP141Names(t *testing.T) {
	each(t, func(t *testing.T, n *Net, leaves [][]int, spines int) {
		want := names(leaves, spines)
		equal(t, "Ports", n.Ports(), len(want))
		for p, name := range want {
			equal(t, fmt.Sprint("Name of ", p), n.Name(p), name)
		}
		for _, p := range outside(len(want)) {
			equal(t, "Name of none", n.Name(p), "")
		}
	})
}

// paths are some, among them the greatest ones.
func paths() []int {
	all := []int{math.MinInt, math.MinInt + 1, -1 << 32, 1 << 32, 1<<32 + 3, math.MaxInt - 1, math.MaxInt}
	for p := -13; p <= 13; p++ {
		all = append(all, p)
	}
	return all
}

// spine is the one among so many that a path goes by, found without a division of what is below 0.
func spine(path, spines int) int {
	if path >= 0 {
		return path % spines
	}
	return spines - 1 - (-(path + 1))%spines
}

// onward is the name of the port that a frame comes to behind that one; "arrives" and "none" are of the others.
func onward(leaves [][]int, spines int, name string, dst, path int) string {
	home := at(leaves, dst)
	toHost := fmt.Sprint("l", home, "-h", dst)
	from, to, _ := strings.Cut(name, "-")
	number := func(s string) int { return int(s[1] - '0') }
	switch {
	case from[0] == 'h' && at(leaves, number(from)) == home:
		return toHost
	case from[0] == 'h':
		return fmt.Sprint("l", at(leaves, number(from)), "-s", spine(path, spines))
	case from[0] == 's' && number(to) == home:
		return toHost
	case from[0] == 's':
		return "none"
	case to[0] == 's':
		return fmt.Sprint(to, "-l", home)
	}
	return "arrives"
}

func TestP142Next(t *testing.T) {
	each(t, func(t *testing.T, n *Net, leaves [][]int, spines int) {
		all := names(leaves, spines)
		for p, name := range all {
			for _, h := range slices.Concat(leaves...) {
				for _, path := range paths() {
					want := onward(leaves, spines, name, h, path)
					next, arrives := n.Next(p, h, path)
					if next != slices.Index(all, want) || arrives != (want == "arrives") {
						t.Fatalf("Next(%s, %d, %d): got %d, %v, want %s", name, h, path, next, arrives, want)
					}
				}
			}
		}
	})
}

// TestP142Told: some ways, port by port, as they are said.
func TestP142Told(t *testing.T) {
	n := made(t, 5, 3)
	all := names([][]int{{0, 1}, {2, 3}, {4}}, 3)
	for _, x := range []struct {
		from      string
		dst, path int
		to        string
	}{
		{"h0", 1, 2, "l0-h1"},
		{"h0", 0, 2, "l0-h0"},
		{"h1", 2, 2, "l0-s2"},
		{"h1", 2, 5, "l0-s2"},
		{"h1", 4, -1, "l0-s2"},
		{"h1", 4, -2, "l0-s1"},
		{"h1", 4, -3, "l0-s0"},
		{"h1", 4, -4, "l0-s2"},
		{"h3", 0, 0, "l1-s0"},
		{"h4", 4, 1, "l2-h4"},
		{"h4", 3, 1, "l2-s1"},
		{"l0-s1", 4, 0, "s1-l2"},
		{"l2-s2", 3, 0, "s2-l1"},
		{"l2-s2", 4, 0, "s2-l2"},
		{"s1-l2", 4, 0, "l2-h4"},
		{"s0-l1", 2, 2, "l1-h2"},
		{"s0-l1", 3, 2, "l1-h3"},
		{"s0-l1", 4, 0, ""},
		{"s2-l2", 0, 0, ""},
	} {
		next, arrives := n.Next(slices.Index(all, x.from), x.dst, x.path)
		if n.Name(next) != x.to || arrives || (x.to == "" && next != -1) {
			t.Errorf("Next(%s, %d, %d): got %s, %v, want %s", x.from, x.dst, x.path, n.Name(next), arrives, x.to)
		}
	}
	for _, from := range []string{"l0-h0", "l0-h1", "l1-h2", "l1-h3", "l2-h4"} {
		for dst := range 5 {
			next, arrives := n.Next(slices.Index(all, from), dst, dst)
			equal(t, "behind "+from, next, -1)
			equal(t, "behind "+from+": arrives", arrives, true)
		}
	}
}

// TestP142None: no such port, no such host, or neither; one that would arrive doesn't, either.
func TestP142None(t *testing.T) {
	each(t, func(t *testing.T, n *Net, leaves [][]int, spines int) {
		ports, hosts := len(names(leaves, spines)), len(slices.Concat(leaves...))
		none := func(p, h int) {
			for _, path := range []int{math.MinInt, -1, 0, 1, math.MaxInt} {
				next, arrives := n.Next(p, h, path)
				if next != -1 || arrives {
					t.Fatalf("Next(%d, %d, %d): got %d, %v", p, h, path, next, arrives)
				}
			}
		}
		for _, p := range outside(ports) {
			for h := range hosts {
				none(p, h)
			}
			for _, h := range outside(hosts) {
				none(p, h)
			}
		}
		for p := range ports {
			for _, h := range outside(hosts) {
				none(p, h)
			}
		}
	})
}

func TestP142Hops(t *testing.T) {
	each(t, func(t *testing.T, n *Net, leaves [][]int, spines int) {
		hosts := slices.Concat(leaves...)
		for _, a := range hosts {
			for _, b := range hosts {
				want := 4
				if at(leaves, a) == at(leaves, b) {
					want = 2
				}
				equal(t, fmt.Sprint("Hops from ", a, " to ", b), n.Hops(a, b), want)
			}
			for _, none := range outside(len(hosts)) {
				equal(t, "Hops to none", n.Hops(a, none), 0)
				equal(t, "Hops from none", n.Hops(none, a), 0)
				equal(t, "Hops from none to none", n.Hops(none, none), 0)
			}
		}
	})
}

// TestP143Arrives: each frame, from its host's way up, comes to its host behind Hops ports, none of them twice; and where
// it goes by a spine, that is the one of its path.
func TestP143Arrives(t *testing.T) {
	each(t, func(t *testing.T, n *Net, leaves [][]int, spines int) {
		hosts := slices.Concat(leaves...)
		for _, src := range hosts {
			for _, dst := range hosts {
				for _, path := range paths() {
					var way []string
					for p, arrives := n.Up(src), false; !arrives && len(way) < 9; {
						way = append(way, n.Name(p))
						p, arrives = n.Next(p, dst, path)
					}
					a, b, s := at(leaves, src), at(leaves, dst), spine(path, spines)
					want := fmt.Sprintf("[h%d l%d-h%d]", src, b, dst)
					if a != b {
						want = fmt.Sprintf("[h%d l%d-s%d s%d-l%d l%d-h%d]", src, a, s, s, b, b, dst)
					}
					equal(t, "its way", fmt.Sprint(way), want)
					equal(t, "Hops", n.Hops(src, dst), len(way))
				}
			}
		}
	})
}

// TestP143Nil: of a net that New did not make, as of none.
func TestP143Nil(t *testing.T) {
	for _, n := range []*Net{nil, {}} {
		equal(t, "Leaves", n.Leaves(), 0)
		equal(t, "Ports", n.Ports(), 0)
		for _, a := range []int{math.MinInt, -1, 0, 1, 5, math.MaxInt} {
			equal(t, "Leaf", n.Leaf(a), -1)
			equal(t, "Up", n.Up(a), -1)
			equal(t, "Name", n.Name(a), "")
			for _, b := range []int{math.MinInt, -1, 0, 1, math.MaxInt} {
				equal(t, "Hops", n.Hops(a, b), 0)
				next, arrives := n.Next(a, b, a)
				equal(t, "Next", next, -1)
				equal(t, "arrives", arrives, false)
			}
		}
	}
}

// TestP143Apart: nets have nothing in common, and asking one changes nothing in it.
func TestP143Apart(t *testing.T) {
	a, b := made(t, 3, 4), made(t, 8, 1)
	for range 2 {
		equal(t, "one", fmt.Sprint([]any{a.Leaves(), a.Ports(), a.Name(6), a.Name(14), a.Hops(0, 2), a.Hops(0, 7)}), "[2 22 l0-s0 s0-l0 4 0]")
		equal(t, "the other one", fmt.Sprint([]any{b.Leaves(), b.Ports(), b.Name(6), b.Name(14), b.Hops(0, 2), b.Hops(0, 7)}), "[4 24 h6 l3-h6 4 4]")
	}
}
