package depgraph

import (
	"slices"

	"tenter/api"
	"tenter/derive"
	"tenter/offend"
)

// offence is a read that may not be, by a phenomenon.
type offence struct {
	phen int
	read api.Bad
}

// offences is all of them that there are.
type offences map[offence]bool

// of tells those of a phenomenon, in order.
func (s offences) of(phen int) []api.Bad {
	var l []api.Bad
	for x := range s {
		if x.phen == phen {
			l = append(l, x.read)
		}
	}
	slices.SortFunc(l, compare)
	return l
}

func compare(a, b api.Bad) int {
	switch {
	case offend.Less(a, b):
		return -1
	case offend.Less(b, a):
		return 1
	}
	return 0
}

// turn makes edges and bad reads those that there are behind a change from a to b. Both are right, as parts of right histories are.
func (g *Graph) turn(a, b api.History) {
	g.turnEdges(a, b)
	for _, phen := range []int{api.G1a, api.G1b} {
		went, came, _ := derive.Bads(a, b, phen)
		for _, read := range went {
			delete(g.bads, offence{phen, read})
		}
		for _, read := range came {
			g.bads[offence{phen, read}] = true
		}
	}
}

func (g *Graph) turnEdges(a, b api.History) {
	g.came, g.went = nil, nil
	change, _ := derive.Edges(a, b)
	for _, x := range change {
		g.edges.Add(x.Edge, x.Count)
		switch g.edges.Count(x.Edge) {
		case 0:
			g.went = append(g.went, x.Edge)
		case x.Count:
			// It had none ahead.
			g.came = append(g.came, x.Edge)
		}
	}
}
