package comps

import (
	"tenter/api"
	"tenter/bitrow"
)

// change does to the arc from u to v what is to be done. An arc that is there more often, or less, changes nothing; one that came, or went, may.
func (c *Comps) change(u, v int, do func(u, v int) api.Errno) api.Errno {
	was := c.isArc(u, v)
	why := do(u, v)
	if c.isArc(u, v) != was {
		c.turn([2]int{u, v})
		c.regroup(u, v)
	}
	return why
}

func (c *Comps) isArc(u, v int) bool { return c.held().closure.Arcs(u, v) > 0 }

// turn keeps in mind that an arc came, or went. What does both is as it was.
func (c *Comps) turn(arc [2]int) {
	if c.turned[arc] {
		delete(c.turned, arc)
		return
	}
	c.turned[arc] = true
}

// touched tells the labels of components some inner arcs of which are turned.
func (c *Comps) touched() *bitrow.Row {
	labels := bitrow.New(c.Nodes())
	for arc := range c.held().turned {
		if label := c.labels[arc[0]]; label == c.labels[arc[1]] {
			labels.Set(label, true)
		}
	}
	return labels
}

// regroup finds out what the arc from u to v, that came or went, makes of components. All that it puts together, or parts, is of one component with u now, or was.
func (c *Comps) regroup(u, v int) {
	together := c.labels[u] == c.labels[v]
	switch {
	case together && !c.closure.Reaches(u, v):
		c.group(c.members[c.labels[u]])
	case !together && c.closure.Reaches(v, u):
		c.group(c.mates(u, c.closure.Row(u)))
	}
}

// group puts nodes, that rise, into components anew. All of a component must be among them, if one is.
func (c *Comps) group(l []int) {
	for _, node := range l {
		c.members[node] = nil
	}
	placed := bitrow.New(c.Nodes())
	for _, node := range l {
		if placed.Has(node) {
			continue
		}
		c.members[node] = c.mates(node, l)
		for _, mate := range c.members[node] {
			c.labels[mate] = node
			placed.Set(mate, true)
		}
	}
}

// mates tells those of l that are of one component with a node.
func (c *Comps) mates(node int, l []int) []int {
	// Most are alone where much falls apart; they need not be held against all others.
	if !c.closure.Reaches(node, node) {
		return []int{node}
	}
	var mates []int
	for _, other := range l {
		if c.closure.Reaches(node, other) && c.closure.Reaches(other, node) {
			mates = append(mates, other)
		}
	}
	return mates
}
