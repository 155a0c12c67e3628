package derive

import (
	"maps"
	"slices"

	"tenter/api"
	"tenter/pack"
)

// counts is by how much edges' counts change; where there is no change, there is no entry.
type counts map[api.Edge]int

// add makes the change of an edge n more.
func (c counts) add(e api.Edge, n int) {
	c[e] += n
	if c[e] == 0 {
		delete(c, e)
	}
}

// listed tells the edges that change, in order.
func (c counts) listed() []api.Heavy {
	var l []api.Heavy
	for _, e := range pack.Sort(slices.Collect(maps.Keys(c))) {
		l = append(l, api.Heavy{Edge: e, Count: c[e]})
	}
	return l
}

// without tells the reads of l that are not in m, as they stand in l.
func without(l, m []api.Bad) []api.Bad {
	met := map[api.Bad]bool{}
	for _, b := range m {
		met[b] = true
	}
	var left []api.Bad
	for _, b := range l {
		if !met[b] {
			left = append(left, b)
		}
	}
	return left
}
