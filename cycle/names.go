package cycle

import (
	"slices"

	"tenter/api"
	"tenter/digraph"
)

// ranks has numbers, each once, and by each one its place among them, once they stand in order.
type ranks struct {
	list  []int
	place map[int]int
}

// meet lets a number be one of them.
func (r *ranks) meet(n int) {
	if _, is := r.place[n]; !is {
		r.place[n] = 0
		r.list = append(r.list, n)
	}
}

// rise puts them in order.
func (r *ranks) rise() {
	slices.Sort(r.list)
	for i, n := range r.list {
		r.place[n] = i
	}
}

// names has the ids and keys of edges, whatever numbers they are. By their places there are nodes and labels of a digraph for them, whose arcs stand in the order of the edges.
type names struct {
	ids  ranks
	keys ranks
}

func newNames(l []api.Edge) names {
	n := names{ids: ranks{place: map[int]int{}}, keys: ranks{place: map[int]int{}}}
	for _, e := range l {
		n.ids.meet(e.From)
		n.ids.meet(e.To)
		n.keys.meet(e.Key)
	}
	n.ids.rise()
	n.keys.rise()
	return n
}

// digraph makes one of edges.
func (n names) digraph(l []api.Edge) *digraph.Graph {
	g := digraph.New(len(n.ids.list))
	for _, e := range l {
		g.Add(api.Arc{From: n.ids.place[e.From], To: n.ids.place[e.To], Kind: e.Kind, Label: n.keys.place[e.Key]})
	}
	return g
}

// edges tells those of arcs.
func (n names) edges(l []api.Arc) []api.Edge {
	var edges []api.Edge
	for _, a := range l {
		edges = append(edges, api.Edge{From: n.ids.list[a.From], To: n.ids.list[a.To], Kind: a.Kind, Key: n.keys.list[a.Label]})
	}
	return edges
}
