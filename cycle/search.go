package cycle

import (
	"slices"

	"tenter/api"
	"tenter/digraph"
	"tenter/dist"
)

// What a walk that goes on from a place has.
const (
	without = iota // no arc of the must
	with           // one, or more
	states
)

// place is a node, and what the walk that led to it has.
type place struct {
	node  int
	state int
}

// search finds closed walks of arcs of the mask, one at least of must, too. Each is sought from its least node, by rising ones, and those that were sought from leave the core: what is left there is above.
type search struct {
	g    *digraph.Graph
	mask int
	must int
	core *core
	met  [][states]int // of each node, the last one from which a walk that has that led to it, and 1
	back [][states]int // of each node, the last one to which an arc came from it, of must or not, and 1
}

func newSearch(g *digraph.Graph, mask, must int) *search {
	n := g.Nodes()
	return &search{g: g, mask: mask, must: must, core: newCore(g, mask), met: make([][states]int, n), back: make([][states]int, n)}
}

// first tells the least node through which one of the shortest walks goes, and how many arcs that has; 0, if there is none. No walk is followed farther than to be shorter than those found ahead of it; dist, which knows no such end, is left for the one node that is told.
func (s *search) first() (node, steps int) {
	// The shortest ones meet no node twice.
	most := s.g.Nodes()
	for from := range s.g.Nodes() {
		if s.core.gone[from] {
			continue
		}
		if n := s.round(from, most); n > 0 {
			node, steps, most = from, n, n-1
		}
		s.core.drop(from)
	}
	return node, steps
}

// round tells how many arcs the shortest walk has that comes back to a node; 0, if none does with so many at most.
func (s *search) round(from, most int) int {
	for _, node := range s.g.Prev(from, s.mask&^s.must) {
		s.back[node][without] = from + 1
	}
	for _, node := range s.g.Prev(from, s.mask&s.must) {
		s.back[node][with] = from + 1
	}
	level := []place{{from, without}}
	for steps := 1; steps <= most && len(level) > 0; steps++ {
		if slices.ContainsFunc(level, func(p place) bool { return s.closes(p, from) }) {
			return steps
		}
		if steps < most {
			level = s.onward(level, from)
		}
	}
	return 0
}

// closes tells whether a walk that led to a place comes back by one arc more, and is one that counts then.
func (s *search) closes(p place, from int) bool {
	back := s.back[p.node]
	return back[with] == from+1 || p.state == with && back[without] == from+1
}

// onward tells the places to which one arc more leads, from those of a level, and fewer don't.
func (s *search) onward(level []place, from int) []place {
	var next []place
	meet := func(nodes []int, state int) {
		for _, node := range nodes {
			// What was met with an arc of must need not be met without: it comes back by whatever the other one does.
			if met := &s.met[node]; !s.core.gone[node] && met[with] <= from && met[state] <= from {
				met[state] = from + 1
				next = append(next, place{node, state})
			}
		}
	}
	for _, p := range level {
		meet(s.g.Next(p.node, s.mask&^s.must), p.state)
		meet(s.g.Next(p.node, s.mask&s.must), with)
	}
	return next
}

// walk tells the first one of the walks from a node that come back to it with so many arcs, and meet none below it.
func (s *search) walk(first, steps int) []api.Arc {
	left := dist.To(s.g, s.mask, first, first)
	lacking := dist.Must(s.g, s.mask, s.must, first, first)
	lacks := true
	var l []api.Arc
	for node := first; steps > 0; node = l[len(l)-1].To {
		steps--
		out := s.g.Out(node, s.mask)
		at := slices.IndexFunc(out, func(a api.Arc) bool {
			if lacks && !isOf(a.Kind, s.must) {
				return lacking[a.To] == steps
			}
			return left[a.To] == steps
		})
		lacks = lacks && !isOf(out[at].Kind, s.must)
		l = append(l, out[at])
	}
	return l
}
