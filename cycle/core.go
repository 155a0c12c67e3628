package cycle

import "tenter/digraph"

// core has the nodes that closed walks may go through: next to each one, and ahead of it, there is one of them. It spares a search all others, which are most where little goes round.
type core struct {
	g    *digraph.Graph
	mask int
	outs []int // of each node, how many of the core are next to it
	ins  []int // likewise, how many are ahead of it
	gone []bool
}

func newCore(g *digraph.Graph, mask int) *core {
	n := g.Nodes()
	c := &core{g: g, mask: mask, outs: make([]int, n), ins: make([]int, n), gone: make([]bool, n)}
	for node := range n {
		c.outs[node] = len(g.Next(node, mask))
		c.ins[node] = len(g.Prev(node, mask))
	}
	for node := range n {
		if c.outs[node] == 0 || c.ins[node] == 0 {
			c.drop(node)
		}
	}
	return c
}

// drop takes a node out, and those that can't stay without it.
func (c *core) drop(node int) {
	if c.gone[node] {
		return
	}
	c.gone[node] = true
	for todo := []int{node}; len(todo) > 0; {
		node, todo = todo[0], todo[1:]
		todo = c.lower(c.ins, c.g.Next(node, c.mask), todo)
		todo = c.lower(c.outs, c.g.Prev(node, c.mask), todo)
	}
}

// lower makes the counts of some nodes one less, takes those out that have none left, and puts them behind todo.
func (c *core) lower(counts, nodes, todo []int) []int {
	for _, node := range nodes {
		counts[node]--
		if counts[node] == 0 && !c.gone[node] {
			c.gone[node] = true
			todo = append(todo, node)
		}
	}
	return todo
}
