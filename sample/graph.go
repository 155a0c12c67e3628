package sample

import (
	"math"
	"slices"

	"tenter/api"
	"tenter/digraph"
)

// OddNodes are no nodes, whatever graph; some would be, if they were cut.
func OddNodes() []int {
	return []int{math.MinInt, math.MinInt32, -4096, -1<<32 + 1, -1, 4096, 4097, 65536, math.MaxInt32, 1 << 32, 1<<32 + 1, 1 << 62, math.MaxInt}
}

// Masks are those of the three kinds, and some with other bits.
func Masks() []int {
	l := []int{-1, 1, 16, 1 | 16, 15, 30, -9, math.MinInt, math.MinInt + 2, math.MaxInt, 1 << 32, 1<<34 | 4, 1 << 62}
	for mask := 0; mask <= 14; mask += 2 {
		l = append(l, mask)
	}
	return l
}

// IsOf tells whether a kind is of a mask.
func IsOf(kind, mask int) bool {
	switch kind {
	case 1:
		return mask&2 != 0
	case 2:
		return mask&4 != 0
	case 3:
		return mask&8 != 0
	}
	return false
}

// UpTo tells so many numbers, from 0 on.
func UpTo(n int) []int {
	var l []int
	for i := range n {
		l = append(l, i)
	}
	return l
}

// Digraph makes a digraph of arcs, each of which is right.
func Digraph(nodes int, l ...api.Arc) *digraph.Graph {
	g := digraph.New(nodes)
	for _, a := range l {
		if g.Add(a) != api.OK {
			panic("an arc is not right, or stands twice")
		}
	}
	return g
}

// DrawArcs draws arcs, each once, fewer than so many.
func DrawArcs(draw func(n int) int, nodes, count int) []api.Arc {
	var l []api.Arc
	if nodes == 0 {
		return nil
	}
	for range count {
		a := api.Arc{From: draw(nodes), To: draw(nodes), Kind: 1 + draw(3), Label: []int{0, 5, 1048575}[draw(3)]}
		if !slices.Contains(l, a) {
			l = append(l, a)
		}
	}
	return l
}

// Net has of each pair of nodes how often there is an arc, as closures and comps do.
type Net struct {
	Nodes  int
	Counts map[[2]int]int
}

// NewNet makes one without arcs.
func NewNet(nodes int) Net { return Net{Nodes: nodes, Counts: map[[2]int]int{}} }

func (n Net) isNode(node int) bool { return node >= 0 && node < n.Nodes }

// Add tells what Add of an arc does, far from MaxNum.
func (n Net) Add(u, v int) api.Errno {
	if !n.isNode(u) || !n.isNode(v) {
		return api.ErrRange
	}
	n.Counts[[2]int{u, v}]++
	return api.OK
}

// Drop tells what Drop of an arc does.
func (n Net) Drop(u, v int) api.Errno {
	arc := [2]int{u, v}
	switch {
	case !n.isNode(u) || !n.isNode(v):
		return api.ErrRange
	case n.Counts[arc] == 0:
		return api.ErrNone
	}
	if n.Counts[arc]--; n.Counts[arc] == 0 {
		delete(n.Counts, arc)
	}
	return api.OK
}

// Rows tells of each node whom it reaches, rising.
func (n Net) Rows() [][]int {
	next := make([][]int, n.Nodes)
	for arc := range n.Counts {
		next[arc[0]] = append(next[arc[0]], arc[1])
	}
	rows := make([][]int, n.Nodes)
	for node := range rows {
		met := make([]bool, n.Nodes)
		for todo := slices.Clone(next[node]); len(todo) > 0; {
			to := todo[len(todo)-1]
			todo = todo[:len(todo)-1]
			if !met[to] {
				met[to] = true
				rows[node] = append(rows[node], to)
				todo = append(todo, next[to]...)
			}
		}
		slices.Sort(rows[node])
	}
	return rows
}
