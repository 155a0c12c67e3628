package parts

import "slices"

// finder finds components by going along arcs once, as far as they lead, ahead of telling what it found (Tarjan's way). A node is open from when it was met till its component is known: those on the way from where the search began, and all that reach one of these.
type finder struct {
	next   func(node int) []int // where a node's arcs go
	met    int
	number []int // how many were met when a node was; 0: it was not yet
	low    []int // the least number of an open node that a node was found to reach
	open   []int // the open nodes, as they were met
	isOpen []bool
	labels []int
}

func newFinder(n int, next func(node int) []int) *finder {
	return &finder{next: next, number: make([]int, n), low: make([]int, n), isOpen: make([]bool, n), labels: make([]int, n)}
}

func (f *finder) isMet(node int) bool { return f.number[node] > 0 }

// step is a node on the way, and where those of its arcs go that were not gone along to the end yet.
type step struct {
	node int
	left []int
}

// visit goes to a node that was not met yet, and on from there. The way is a list, and not calls within calls, since it may be as long as there are nodes.
func (f *finder) visit(from int) {
	way := []step{f.meet(from)}
	for len(way) > 0 {
		last := &way[len(way)-1]
		if len(last.left) == 0 {
			f.leave(last.node)
			way = way[:len(way)-1]
			continue
		}
		to := last.left[0]
		if !f.isMet(to) {
			// What it reaches is not known yet: the arc is looked at once more behind it.
			way = append(way, f.meet(to))
			continue
		}
		if f.isOpen[to] {
			f.low[last.node] = min(f.low[last.node], f.low[to])
		}
		last.left = last.left[1:]
	}
}

func (f *finder) meet(node int) step {
	f.met++
	f.number[node], f.low[node] = f.met, f.met
	f.open = append(f.open, node)
	f.isOpen[node] = true
	return step{node, f.next(node)}
}

// leave goes back from a node. If it reaches none that was met earlier, it is the first one met of its component, and the others stand behind it.
func (f *finder) leave(node int) {
	if f.low[node] < f.number[node] {
		return
	}
	at := len(f.open) - 1
	for f.open[at] != node {
		at--
	}
	label := slices.Min(f.open[at:])
	for _, member := range f.open[at:] {
		f.isOpen[member] = false
		f.labels[member] = label
	}
	f.open = f.open[:at]
}
