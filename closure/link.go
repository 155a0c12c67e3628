package closure

import (
	"slices"

	"tenter/bitrow"
)

// oneByOne is how many times as many nodes must stand ahead of an arc that goes as behind it, for those behind to be looked at one by one: this is as fast then, however little changes, and far faster, if most of those ahead lose them.
const oneByOne = 64

// link lets an arc that was not there go from u to v.
func (c *Closure) link(u, v int) {
	c.next[u].Set(v, true)
	c.prev[v].Set(u, true)
	if c.rows[u].Has(v) {
		return
	}
	gain := c.behind(v)
	for _, node := range c.ahead(u).List() {
		// Who reaches v reaches all of the gain already.
		if !c.rows[node].Has(v) {
			c.rows[node].Or(gain)
			c.last.Set(node, true)
		}
	}
}

// unlink takes the arc from u to v away. None but those ahead of u went by it, to none but those behind v; and they all reach u still. So all is as it was, if u reaches v by another way.
func (c *Closure) unlink(u, v int) {
	c.next[u].Set(v, false)
	c.prev[v].Set(u, false)
	ahead := c.ahead(u)
	with := c.onward(ahead).from(u, nil)
	if u != v && slices.Contains(with, v) {
		return
	}
	c.settle(with)
	if c.rows[u].Has(v) {
		return
	}
	ahead.Minus(bitrow.Of(c.Nodes(), with...))
	lost := c.behind(v)
	if lost.Count()*oneByOne > ahead.Count() {
		c.renew(ahead)
		return
	}
	for _, node := range lost.List() {
		c.lose(ahead, node)
	}
}

// ahead tells those that reach a node, with itself.
func (c *Closure) ahead(node int) *bitrow.Row {
	l := bitrow.Of(c.Nodes(), node)
	for from, row := range c.rows {
		if row.Has(node) {
			l.Set(from, true)
		}
	}
	return l
}

// behind tells those that a node reaches, with itself.
func (c *Closure) behind(node int) *bitrow.Row {
	l := c.rows[node].Copy()
	l.Set(node, true)
	return l
}

// lose takes a node out of the rows of those, of some, that reached it, and don't any more. The node itself is one of them only where it went round with v, to which the arc that went led: so it reached itself, too.
func (c *Closure) lose(some *bitrow.Row, node int) {
	back := c.backward(c.ahead(node))
	for _, from := range c.prev[node].List() {
		back.from(from, nil)
	}
	losers := some.Copy()
	losers.And(back.left)
	for _, from := range losers.List() {
		c.rows[from].Set(node, false)
		c.last.Set(from, true)
	}
}

// renew makes the rows of some nodes anew. All of a component must be among them, if one is, and the rows of the others must be right.
func (c *Closure) renew(some *bitrow.Row) {
	back, onward := c.backward(some), c.onward(some)
	var order []int
	for _, node := range some.List() {
		order = back.from(node, order)
	}
	// Of two components of which one reaches the other, the last node of the one that is reached stands behind all of the other: so the search onward meets none that is not of the same component, but those that were settled.
	for _, node := range slices.Backward(order) {
		if l := onward.from(node, nil); len(l) > 0 {
			c.settle(l)
		}
	}
}

// settle makes the rows of a component anew. Those of the other nodes to which its arcs go must be right.
func (c *Closure) settle(component []int) {
	row, next := bitrow.New(c.Nodes()), bitrow.New(c.Nodes())
	for _, node := range component {
		next.Or(c.next[node])
	}
	// Whoever has an arc to one of its own goes round; so one that is alone need not.
	if own := bitrow.Of(c.Nodes(), component...); next.Minus(own) {
		row.Or(own)
	}
	for to := next.Next(0); to >= 0; to = next.Next(to + 1) {
		row.Set(to, true)
		row.Or(c.rows[to])
		next.Minus(row)
	}
	for _, node := range component {
		// By fewer arcs nobody is reached who was not.
		if c.rows[node].And(row) {
			c.last.Set(node, true)
		}
	}
}
