package digraph

import (
	"cmp"
	"slices"

	"tenter/api"
)

// link is a node to which arcs go from another one, or from which they come to it: how many of each kind, and the bits of the kinds of which there are any.
type link struct {
	node   int16
	kinds  int16
	counts [api.KindCount]int32
}

// links are by rising nodes; a node without arcs is none of them.
type links []link

// change makes the arcs of a kind one more, or one less.
func (l *links) change(node, kind, by int) {
	at, is := slices.BinarySearchFunc(*l, node, func(k link, node int) int { return cmp.Compare(int(k.node), node) })
	if !is {
		*l = slices.Insert(*l, at, link{node: int16(node)})
	}
	k := &(*l)[at]
	k.counts[kind] += int32(by)
	k.kinds &^= 1 << kind
	if k.counts[kind] > 0 {
		k.kinds |= 1 << kind
	}
	if k.kinds == 0 {
		*l = slices.Delete(*l, at, at+1)
	}
}

// of tells the nodes that have arcs of the mask.
func (l links) of(mask int) []int {
	nodes := make([]int, 0, len(l))
	for _, k := range l {
		if int(k.kinds)&mask != 0 {
			nodes = append(nodes, int(k.node))
		}
	}
	return nodes
}
