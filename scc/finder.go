package scc

import (
	"slices"

	"tenter/bitrow"
	"tenter/fifo"
)

// finder finds components by going along arcs once, as far as they lead, ahead of telling what it found (Tarjan's way). A node is open from when it was met till its component is known: those on the way from where the search began, and all that reach one of these.
type finder struct {
	next   func(node int) []int // where a node's arcs go
	met    int
	number []int // how many were met when a node was; 0: it was not yet
	low    []int // the least number of an open node that a node was found to reach
	open   *fifo.Stack
	isOpen *bitrow.Row
	labels []int
}

func newFinder(n int, next func(node int) []int) *finder {
	return &finder{next: next, number: make([]int, n), low: make([]int, n), open: fifo.NewStack(n), isOpen: bitrow.New(n), labels: make([]int, n)}
}

func (f *finder) isMet(node int) bool { return f.number[node] > 0 }

// visit goes to a node that was not met yet, and on from there.
func (f *finder) visit(node int) {
	f.meet(node)
	for _, to := range f.next(node) {
		switch {
		case !f.isMet(to):
			f.visit(to)
			f.low[node] = min(f.low[node], f.low[to])
		case f.isOpen.Has(to):
			f.low[node] = min(f.low[node], f.number[to])
		}
	}
	// Who reaches none that was met earlier is the first one met of its component, and the others stand upon it.
	if f.low[node] == f.number[node] {
		f.settle(node)
	}
}

func (f *finder) meet(node int) {
	f.met++
	f.number[node], f.low[node] = f.met, f.met
	f.open.Push(node)
	f.isOpen.Set(node, true)
}

// settle labels the component whose first met node this is.
func (f *finder) settle(node int) {
	var l []int
	for f.isOpen.Has(node) {
		top, _ := f.open.Pop()
		f.isOpen.Set(top, false)
		l = append(l, top)
	}
	label := slices.Min(l)
	for _, member := range l {
		f.labels[member] = label
	}
}
