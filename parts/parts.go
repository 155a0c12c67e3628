// Package parts tells components of nodes, however many these are. Package scc asks it of digraphs, package phen of edges, whose ids may be more than a digraph has nodes.
package parts

// Labels tells, of each of n nodes, the least node of its component: of itself, and of those that it reaches and that reach it. To which of them a node's arcs go is told by next.
func Labels(n int, next func(node int) []int) []int {
	f := newFinder(n, next)
	for node := range n {
		if !f.isMet(node) {
			f.visit(node)
		}
	}
	return f.labels
}
