package closure

import "tenter/bitrow"

// search goes along arcs, one way or the other, and meets each of the nodes that are left once.
type search struct {
	next func(node int) *bitrow.Row // where a node's arcs go
	left *bitrow.Row
}

// onward searches where arcs go, among some nodes.
func (c *Closure) onward(some *bitrow.Row) search {
	return search{next: func(node int) *bitrow.Row { return c.next[node] }, left: some.Copy()}
}

// backward searches where arcs come from, among some nodes.
func (c *Closure) backward(some *bitrow.Row) search {
	return search{next: func(node int) *bitrow.Row { return c.prev[node] }, left: some.Copy()}
}

// from puts those that are met from a node on behind those of l: each one behind all that were met from it on, itself last.
func (s search) from(node int, l []int) []int {
	if !s.left.Set(node, false) {
		return l
	}
	next := s.next(node)
	for to := next.NextBoth(s.left, 0); to >= 0; to = next.NextBoth(s.left, to+1) {
		l = s.from(to, l)
	}
	return append(l, node)
}
