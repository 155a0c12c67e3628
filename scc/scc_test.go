package scc_test

import (
	"math"
	"math/rand"
	"slices"
	"testing"

	"tenter/api"
	"tenter/digraph"
	"tenter/sample"
	"tenter/scc"
)

// What the chapter says, once more, by who reaches whom.

// reach tells of each node whom it reaches by arcs of the mask.
func reach(nodes int, l []api.Arc, mask int) [][]bool {
	r := make([][]bool, nodes)
	for node := range r {
		r[node] = make([]bool, nodes)
	}
	for _, a := range l {
		if sample.IsOf(a.Kind, mask) {
			r[a.From][a.To] = true
		}
	}
	for via := range r {
		for from := range r {
			for to := range r {
				r[from][to] = r[from][to] || r[from][via] && r[via][to]
			}
		}
	}
	return r
}

// parts tells labels, components, and who goes round.
func parts(r [][]bool) (labels []int, components [][]int, round []int) {
	for node := range r {
		least := 0
		for least != node && !(r[node][least] && r[least][node]) {
			least++
		}
		labels = append(labels, least)
		if r[node][node] {
			round = append(round, node)
		}
	}
	for label := range r {
		var l []int
		for node := range r {
			if labels[node] == label {
				l = append(l, node)
			}
		}
		if len(l) > 0 {
			components = append(components, l)
		}
	}
	return labels, components, round
}

func sameLists(a, b [][]int) bool { return slices.EqualFunc(a, b, slices.Equal[[]int]) }

// want looks by all calls at what is told of a digraph.
func want(t *testing.T, g *digraph.Graph, mask int, labels []int, components [][]int, round []int) {
	t.Helper()
	if got := scc.Labels(g, mask); !slices.Equal(got, labels) {
		t.Fatalf("Labels of %d: %v, want %v", mask, got, labels)
	}
	if got := scc.Components(g, mask); !sameLists(got, components) {
		t.Fatalf("Components of %d: %v, want %v", mask, got, components)
	}
	if got := scc.Round(g, mask); !slices.Equal(got, round) {
		t.Fatalf("Round of %d: %v, want %v", mask, got, round)
	}
}

// wantAll looks at what is told of arcs by all masks.
func wantAll(t *testing.T, nodes int, l ...api.Arc) {
	t.Helper()
	g := sample.Digraph(nodes, l...)
	for _, mask := range sample.Masks() {
		labels, components, round := parts(reach(nodes, l, mask))
		want(t, g, mask, labels, components, round)
	}
	if g.Len() != len(l) {
		t.Fatalf("of %d arcs %d are left", len(l), g.Len())
	}
	for _, a := range l {
		if !g.Has(a) {
			t.Fatalf("%v is gone", a)
		}
	}
}

func arc(from, to, kind, label int) api.Arc {
	return api.Arc{From: from, To: to, Kind: kind, Label: label}
}

// alone tells nodes each of which is a component.
func alone(nodes int) (labels []int, components [][]int) {
	for node := range nodes {
		labels = append(labels, node)
		components = append(components, []int{node})
	}
	return labels, components
}

// 23.1

// The example of the chapter.
func TestExample(t *testing.T) {
	g := sample.Digraph(3, arc(0, 1, 1, 0), arc(1, 0, 1, 0), arc(1, 2, 1, 0))
	want(t, g, 2, []int{0, 0, 2}, [][]int{{0, 1}, {2}}, []int{0, 1})
}

func TestWithoutArcs(t *testing.T) {
	for _, nodes := range []int{0, 1, 2, 70, 4096} {
		labels, components := alone(nodes)
		for _, mask := range sample.Masks() {
			want(t, digraph.New(nodes), mask, labels, components, nil)
		}
	}
}

func TestNil(t *testing.T) {
	for _, mask := range sample.Masks() {
		want(t, nil, mask, nil, nil, nil)
	}
}

// Who has an arc to itself goes round, and is alone nevertheless.
func TestArcToItself(t *testing.T) {
	l := []api.Arc{arc(0, 0, 1, 5), arc(1, 1, 2, 5), arc(1, 1, 2, 6), arc(2, 2, 3, 5), arc(0, 1, 1, 5), arc(1, 2, 1, 5), arc(2, 3, 1, 5)}
	wantAll(t, 4, l...)
	g := sample.Digraph(4, l...)
	labels, components := alone(4)
	want(t, g, 14, labels, components, []int{0, 1, 2})
	want(t, g, 2, labels, components, []int{0})
	want(t, g, 4, labels, components, []int{1})
	want(t, g, 12, labels, components, []int{1, 2})
}

// What arcs of the mask don't do, others don't.
func TestMasks(t *testing.T) {
	l := []api.Arc{arc(0, 1, 1, 5), arc(1, 2, 2, 5), arc(2, 0, 3, 5), arc(2, 1, 1, 5)}
	wantAll(t, 3, l...)
	g := sample.Digraph(3, l...)
	labels, components := alone(3)
	for _, mask := range []int{0, 1, 2, 4, 8, 10, 12, 16} {
		want(t, g, mask, labels, components, nil)
	}
	want(t, g, 6, []int{0, 1, 1}, [][]int{{0}, {1, 2}}, []int{1, 2})
	for _, mask := range []int{14, 15, 30, -1, math.MaxInt} {
		want(t, g, mask, []int{0, 0, 0}, [][]int{{0, 1, 2}}, []int{0, 1, 2})
	}
}

// A label is the least node, wherever the search begins, and by whatever way it goes.
func TestLabelIsTheLeast(t *testing.T) {
	for _, l := range [][]api.Arc{
		{arc(2, 1, 1, 0), arc(1, 2, 1, 0), arc(0, 2, 1, 0)},
		{arc(0, 3, 1, 0), arc(3, 1, 1, 0), arc(1, 2, 1, 0), arc(2, 3, 1, 0)},
		{arc(0, 4, 1, 0), arc(4, 2, 1, 0), arc(2, 4, 1, 0), arc(4, 3, 1, 0), arc(3, 1, 1, 0), arc(1, 3, 1, 0)},
		{arc(4, 0, 1, 0), arc(0, 4, 1, 0), arc(3, 1, 1, 0), arc(1, 3, 1, 0), arc(4, 3, 1, 0), arc(2, 2, 1, 0)},
		{arc(0, 1, 1, 0), arc(1, 0, 1, 0), arc(1, 2, 1, 0), arc(2, 3, 1, 0), arc(3, 2, 1, 0), arc(3, 4, 1, 0), arc(4, 1, 1, 0)},
		// An arc back into what is done with is none to one that is open.
		{arc(0, 1, 1, 0), arc(0, 2, 1, 0), arc(2, 1, 1, 0), arc(2, 0, 1, 0)},
		{arc(0, 2, 1, 0), arc(0, 3, 1, 0), arc(3, 2, 1, 0), arc(3, 1, 1, 0), arc(1, 2, 1, 0), arc(1, 0, 1, 0)},
	} {
		wantAll(t, 5, l...)
	}
}

func TestOfAny(t *testing.T) {
	from := rand.New(rand.NewSource(231))
	sizes := map[int]int{}
	for range 1500 {
		nodes := from.Intn(9)
		l := sample.DrawArcs(from.Intn, nodes, from.Intn(4*nodes+1))
		wantAll(t, nodes, l...)
		_, components, _ := parts(reach(nodes, l, 14))
		for _, c := range components {
			sizes[len(c)]++
		}
	}
	for size := 1; size <= 6; size++ {
		if sizes[size] < 50 {
			t.Errorf("components of %d nodes are too rare: %v", size, sizes)
		}
	}
}

// Nodes of several words, and rounds within rounds.
func TestOfMore(t *testing.T) {
	from := rand.New(rand.NewSource(232))
	for range 12 {
		nodes := 60 + from.Intn(80)
		l := sample.DrawArcs(from.Intn, nodes, nodes+from.Intn(nodes))
		g := sample.Digraph(nodes, l...)
		for _, mask := range []int{2, 6, 14} {
			labels, components, round := parts(reach(nodes, l, mask))
			want(t, g, mask, labels, components, round)
		}
	}
}

// Many

// ring has an arc from each of the nodes to the next one of them, and from the last to the first.
func ring(l []int) []api.Arc {
	var arcs []api.Arc
	for i, node := range l {
		arcs = append(arcs, arc(node, l[(i+1)%len(l)], 1+i%3, i))
	}
	return arcs
}

func TestRingOfAllNodes(t *testing.T) {
	up := sample.UpTo(api.MaxNodes)
	down := slices.Clone(up)
	slices.Reverse(down)
	labels, components := alone(api.MaxNodes)
	for _, l := range [][]int{up, down, rand.New(rand.NewSource(233)).Perm(api.MaxNodes)} {
		g := sample.Digraph(api.MaxNodes, ring(l)...)
		want(t, g, 14, make([]int, api.MaxNodes), [][]int{up}, up)
		want(t, g, 6, labels, components, nil)
		// A ring without one of its arcs is a path.
		a := g.Arcs(14)[777]
		g.Drop(a)
		want(t, g, 14, labels, components, nil)
		g.Add(arc(a.To, a.To, 1, 0))
		want(t, g, 14, labels, components, []int{a.To})
	}
}

// Two rings, between which arcs go one way only.
func TestTwoRings(t *testing.T) {
	var even, odd, labels []int
	for node := range api.MaxNodes {
		if node%2 == 0 {
			even = append(even, node)
		} else {
			odd = append(odd, node)
		}
		labels = append(labels, node%2)
	}
	g := sample.Digraph(api.MaxNodes, append(ring(even), ring(odd)...)...)
	for i := range odd {
		if i%3 == 0 {
			g.Add(arc(odd[i], even[len(even)-1-i], 1, 0))
		}
	}
	want(t, g, 14, labels, [][]int{even, odd}, sample.UpTo(api.MaxNodes))
}

// Arcs from each node to each, or to each above it.
func TestFull(t *testing.T) {
	const nodes = 400
	g := digraph.New(nodes)
	for a := range nodes {
		for b := range nodes {
			kind := 1
			if a >= b {
				kind = 2
			}
			g.Add(arc(a, b, kind, 7))
		}
	}
	up := sample.UpTo(nodes)
	labels, components := alone(nodes)
	want(t, g, 6, make([]int, nodes), [][]int{up}, up)
	want(t, g, 2, labels, components, nil)
	want(t, g, 4, labels, components, up)
}

// 23.2 to 23.4

// mates tells of each node the others of its component.
func mates(g *digraph.Graph, mask int) map[[2]int]bool {
	together := map[[2]int]bool{}
	for _, l := range scc.Components(g, mask) {
		for _, a := range l {
			for _, b := range l {
				together[[2]int{a, b}] = true
			}
		}
	}
	return together
}

func TestEachNodeIsOfOneComponent(t *testing.T) {
	from := rand.New(rand.NewSource(234))
	for range 60 {
		nodes := from.Intn(150)
		g := sample.Digraph(nodes, sample.DrawArcs(from.Intn, nodes, 2*nodes)...)
		for _, mask := range sample.Masks() {
			labels := scc.Labels(g, mask)
			var all []int
			for _, l := range scc.Components(g, mask) {
				for _, node := range l {
					if labels[node] != l[0] {
						t.Fatalf("the label of %d is %d; its component is %v", node, labels[node], l)
					}
				}
				all = append(all, l...)
			}
			slices.Sort(all)
			if !slices.Equal(all, sample.UpTo(nodes)) {
				t.Fatalf("of %d nodes, by %d: %v", nodes, mask, all)
			}
		}
	}
}

func TestBetweenComponentsIsNoWayBack(t *testing.T) {
	from := rand.New(rand.NewSource(235))
	between := 0
	for range 60 {
		nodes := 1 + from.Intn(40)
		l := sample.DrawArcs(from.Intn, nodes, 2*nodes)
		g := sample.Digraph(nodes, l...)
		for _, mask := range []int{2, 6, 12, 14} {
			labels, r := scc.Labels(g, mask), reach(nodes, l, mask)
			for _, a := range g.Arcs(mask) {
				if labels[a.From] == labels[a.To] {
					continue
				}
				between++
				if r[a.To][a.From] {
					t.Fatalf("of %v, by %d: %v goes between components, and there is a way back", l, mask, a)
				}
			}
		}
	}
	if between < 1000 {
		t.Errorf("too few arcs: %d", between)
	}
}

func TestWithAnArcMore(t *testing.T) {
	from := rand.New(rand.NewSource(236))
	for range 30 {
		nodes := 1 + from.Intn(20)
		g := digraph.New(nodes)
		was := map[[2]int]bool{}
		for _, a := range sample.DrawArcs(from.Intn, nodes, 3*nodes) {
			g.Add(a)
			is := mates(g, 14)
			for pair := range was {
				if !is[pair] {
					t.Fatalf("of %v: with %v more, %v are not together any more", g.Arcs(14), a, pair)
				}
			}
			was = is
		}
	}
}

// Memory

func TestAnswersAreNewMemory(t *testing.T) {
	l := []api.Arc{arc(0, 1, 1, 5), arc(1, 0, 1, 5), arc(2, 3, 1, 5), arc(3, 2, 1, 5), arc(4, 4, 1, 5)}
	g := sample.Digraph(5, l...)
	labels, components, round := parts(reach(5, l, 14))
	for _, told := range [][]int{scc.Labels(g, 14), scc.Round(g, 14)} {
		for i := range told {
			told[i] = 9
		}
		want(t, g, 14, labels, components, round)
	}
	told := scc.Components(g, 14)
	for i := range told {
		_ = append(told[i], 9)
		if !sameLists(told, components) {
			t.Fatalf("what is put behind one component is in another one: %v", told)
		}
	}
	for i := range told {
		told[i][0] = 9
	}
	want(t, g, 14, labels, components, round)
}
