package dist

import (
	"tenter/digraph"
	"tenter/fifo"
)

// What a walk from a node on has; the walks to one node, from all others, are found from their ends on.
const (
	without = iota // no arc of the must
	with           // one, or more
	states
)

// A place is a node and what the walk from there has, as one number: the node above it.
const (
	nodeShift = 1
	stateMask = 1<<nodeShift - 1
)

// rule tells which walks count.
type rule struct {
	mask  int
	must  int
	least int
}

// search finds the shortest walks to one node.
type search struct {
	rule
	g     *digraph.Graph
	steps [][states]int // of each node, and each that a walk may have; -1: there is no walk yet
	queue *fifo.Queue
}

// shortest tells, of each node, how many arcs the shortest walk to one has that has what it shall.
func shortest(g *digraph.Graph, r rule, node, state int) []int {
	s := search{rule: r, g: g, steps: make([][states]int, g.Nodes()), queue: fifo.New(states * g.Nodes())}
	l := make([]int, g.Nodes())
	for from := range l {
		s.steps[from] = [states]int{-1, -1}
	}
	s.meet(node, without, 0)
	for place, is := s.queue.Pop(); is; place, is = s.queue.Pop() {
		s.back(place>>nodeShift, place&stateMask)
	}
	for from := range l {
		l[from] = s.steps[from][state]
	}
	return l
}

// meet lets a walk of so many arcs begin at a node, if none did that has the same. As they come by rising numbers of arcs, the first one is the shortest.
func (s *search) meet(node, state, steps int) {
	if node < max(s.least, 0) || node >= len(s.steps) || s.steps[node][state] >= 0 {
		return
	}
	s.steps[node][state] = steps
	s.queue.Push(node<<nodeShift | state)
}

// back goes on by one arc from where a walk begins.
func (s *search) back(node, state int) {
	steps := s.steps[node][state] + 1
	for _, from := range s.g.Prev(node, s.mask&^s.must) {
		s.meet(from, state, steps)
	}
	for _, from := range s.g.Prev(node, s.mask&s.must) {
		s.meet(from, with, steps)
	}
}
