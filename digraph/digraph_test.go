package digraph_test

import (
	"cmp"
	"math"
	"math/rand"
	"slices"
	"testing"

	"tenter/api"
	"tenter/digraph"
	"tenter/sample"
)

// What the chapter says, once more, by going through all arcs.

// plain has nodes, and arcs.
type plain struct {
	nodes int
	arcs  map[api.Arc]bool
}

func isFrom(least, n, most int) bool { return n >= least && n <= most }

func (p plain) right(a api.Arc) bool {
	return isFrom(0, a.From, p.nodes-1) && isFrom(0, a.To, p.nodes-1) && isFrom(1, a.Kind, 3) && isFrom(0, a.Label, 1048575)
}

func (p plain) add(a api.Arc) api.Errno {
	switch {
	case !p.right(a):
		return api.ErrRange
	case p.arcs[a]:
		return api.ErrThere
	}
	p.arcs[a] = true
	return api.OK
}

func (p plain) drop(a api.Arc) api.Errno {
	if !p.arcs[a] {
		return api.ErrNone
	}
	delete(p.arcs, a)
	return api.OK
}

func compare(a, b api.Arc) int {
	return cmp.Or(cmp.Compare(a.From, b.From), cmp.Compare(a.Kind, b.Kind), cmp.Compare(a.Label, b.Label), cmp.Compare(a.To, b.To))
}

// listed tells those arcs that is holds of, in order.
func (p plain) listed(is func(a api.Arc) bool) []api.Arc {
	var l []api.Arc
	for a := range p.arcs {
		if is(a) {
			l = append(l, a)
		}
	}
	slices.SortFunc(l, compare)
	return l
}

func (p plain) out(node, mask int) []api.Arc {
	return p.listed(func(a api.Arc) bool { return a.From == node && sample.IsOf(a.Kind, mask) })
}

// ends tells what end tells of the arcs of the mask that is holds of, rising, each once.
func (p plain) ends(mask int, is func(a api.Arc) bool, end func(a api.Arc) int) []int {
	var l []int
	for a := range p.arcs {
		if sample.IsOf(a.Kind, mask) && is(a) {
			l = append(l, end(a))
		}
	}
	slices.Sort(l)
	return slices.Compact(l)
}

func (p plain) next(node, mask int) []int {
	return p.ends(mask, func(a api.Arc) bool { return a.From == node }, func(a api.Arc) int { return a.To })
}

func (p plain) prev(node, mask int) []int {
	return p.ends(mask, func(a api.Arc) bool { return a.To == node }, func(a api.Arc) int { return a.From })
}

func arc(from, to, kind, label int) api.Arc {
	return api.Arc{From: from, To: to, Kind: kind, Label: label}
}

// oddNumbers are around those that may be, and at the ends of all; some would do, if they were cut.
func oddNumbers() []int {
	return []int{math.MinInt, math.MinInt32, -1048576, -4096, -1, 4096, 1048576, 1 << 21, math.MaxInt32, 1 << 32, 1<<32 + 1, 1<<62 + 1, math.MaxInt}
}

// oddArcs are not right for whatever digraph: one part alone, or all, may not be.
func oddArcs() []api.Arc {
	l := []api.Arc{{}, arc(0, 0, 0, 0), arc(0, 1, 4, 5), arc(0, 1, 5, 5), arc(0, 1, 0, 5), arc(4096, 0, 1, 0), arc(0, 4096, 1, 0)}
	for _, n := range oddNumbers() {
		l = append(l, arc(n, 1, 1, 5), arc(1, n, 1, 5), arc(0, 1, n, 5), arc(n, n, n, n))
		if !isFrom(0, n, 1048575) {
			l = append(l, arc(0, 1, 1, n))
		}
	}
	return l
}

// want looks by all calls at a digraph that is meant to be like those nodes and arcs.
func want(t *testing.T, g *digraph.Graph, p plain) {
	t.Helper()
	if g.Nodes() != p.nodes || g.Len() != len(p.arcs) {
		t.Fatalf("Nodes %d, Len %d; want %d, %d", g.Nodes(), g.Len(), p.nodes, len(p.arcs))
	}
	for _, mask := range sample.Masks() {
		all := p.listed(func(a api.Arc) bool { return sample.IsOf(a.Kind, mask) })
		if got := g.Arcs(mask); !slices.Equal(got, all) {
			t.Fatalf("Arcs of %d: %v, want %v", mask, got, all)
		}
		for node := range p.nodes {
			wantNode(t, g, p, node, mask)
		}
		for _, node := range append(oddNumbers(), p.nodes, p.nodes+1) {
			wantNode(t, g, p, node, mask)
		}
	}
}

// wantNode looks at what goes from a node, and comes to it.
func wantNode(t *testing.T, g *digraph.Graph, p plain, node, mask int) {
	t.Helper()
	if got, l := g.Out(node, mask), p.out(node, mask); !slices.Equal(got, l) {
		t.Fatalf("of %v: Out of %d, %d: %v, want %v", p.arcs, node, mask, got, l)
	}
	if got, l := g.Next(node, mask), p.next(node, mask); !slices.Equal(got, l) {
		t.Fatalf("of %v: Next of %d, %d: %v, want %v", p.arcs, node, mask, got, l)
	}
	if got, l := g.Prev(node, mask), p.prev(node, mask); !slices.Equal(got, l) {
		t.Fatalf("of %v: Prev of %d, %d: %v, want %v", p.arcs, node, mask, got, l)
	}
}

// wantHas asks of arcs around those that there are.
func wantHas(t *testing.T, g *digraph.Graph, p plain) {
	t.Helper()
	l := oddArcs()
	for a := range p.arcs {
		l = append(l, a, arc(a.From, a.To, a.Kind, a.Label+1), arc(a.From, a.To, a.Kind+1, a.Label), arc(a.From, a.To+1, a.Kind, a.Label), arc(a.From+1, a.To, a.Kind, a.Label), arc(a.To, a.From, a.Kind, a.Label))
		l = append(l, arc(a.From, a.To, a.Kind, a.Label-1), arc(a.From, a.To-1, a.Kind, a.Label), arc(a.From-1, a.To, a.Kind, a.Label), arc(a.From+4096, a.To, a.Kind, a.Label), arc(a.From, a.To+4096, a.Kind, a.Label-1))
	}
	for _, a := range l {
		if got := g.Has(a); got != p.arcs[a] {
			t.Fatalf("of %v: Has of %v: %v", p.arcs, a, got)
		}
	}
}

// wantAdd adds to both, and looks at the error.
func wantAdd(t *testing.T, g *digraph.Graph, p plain, a api.Arc) api.Errno {
	t.Helper()
	why := p.add(a)
	if got := g.Add(a); got != why {
		t.Fatalf("Add of %v to %v: %d, want %d", a, p.arcs, got, why)
	}
	return why
}

// wantDrop drops of both, and looks at the error.
func wantDrop(t *testing.T, g *digraph.Graph, p plain, a api.Arc) api.Errno {
	t.Helper()
	why := p.drop(a)
	if got := g.Drop(a); got != why {
		t.Fatalf("Drop of %v of %v: %d, want %d", a, p.arcs, got, why)
	}
	return why
}

// made makes a digraph, and a plain one, of arcs.
func made(t *testing.T, nodes int, l ...api.Arc) (*digraph.Graph, plain) {
	t.Helper()
	g, p := digraph.New(nodes), plain{nodes, map[api.Arc]bool{}}
	for _, a := range l {
		if why := wantAdd(t, g, p, a); why != api.OK {
			t.Fatalf("Add of %v: %d", a, why)
		}
	}
	return g, p
}

// The example of the chapter.
func TestExample(t *testing.T) {
	g, _ := made(t, 2, arc(0, 1, 2, 5), arc(0, 1, 3, 4))
	if l := g.Next(0, 4); !slices.Equal(l, []int{1}) {
		t.Errorf("Next of 4: %v", l)
	}
	if l := g.Next(0, 2); len(l) != 0 {
		t.Errorf("Next of 2: %v", l)
	}
	if l := g.Out(0, 12); !slices.Equal(l, []api.Arc{arc(0, 1, 2, 5), arc(0, 1, 3, 4)}) {
		t.Errorf("Out of 12: %v", l)
	}
}

// 22.1

func TestNew(t *testing.T) {
	for n, nodes := range map[int]int{
		math.MinInt: 0, -1: 0, 0: 0, 1: 1, 2: 2, 4095: 4095, 4096: 4096, 4097: 4096, 1 << 20: 4096, 1<<32 + 1: 4096, math.MaxInt: 4096,
	} {
		g := digraph.New(n)
		if g == nil {
			t.Fatalf("New of %d is nil", n)
		}
		want(t, g, plain{nodes: nodes})
	}
}

func TestAddAndDrop(t *testing.T) {
	g, p := made(t, 3)
	for _, a := range []api.Arc{
		arc(0, 1, 1, 5), arc(0, 1, 1, 4), arc(0, 1, 2, 5), arc(1, 0, 1, 5), arc(2, 2, 3, 0), arc(2, 2, 3, 1048575), arc(0, 2, 1, 4), arc(2, 0, 2, 1048575), arc(0, 0, 1, 0),
	} {
		if why := wantAdd(t, g, p, a); why != api.OK {
			t.Fatalf("Add of %v: %d", a, why)
		}
		want(t, g, p)
		if why := wantAdd(t, g, p, a); why != api.ErrThere {
			t.Fatalf("Add of %v once more: %d", a, why)
		}
		want(t, g, p)
		wantHas(t, g, p)
	}
	for _, a := range []api.Arc{
		arc(0, 1, 1, 5), arc(2, 2, 3, 1048575), arc(0, 1, 1, 4), arc(0, 0, 1, 0), arc(2, 2, 3, 0), arc(1, 0, 1, 5), arc(0, 2, 1, 4), arc(0, 1, 2, 5), arc(2, 0, 2, 1048575),
	} {
		if why := wantDrop(t, g, p, a); why != api.OK {
			t.Fatalf("Drop of %v: %d", a, why)
		}
		want(t, g, p)
		if why := wantDrop(t, g, p, a); why != api.ErrNone {
			t.Fatalf("Drop of %v once more: %d", a, why)
		}
		want(t, g, p)
		wantHas(t, g, p)
	}
}

// What is not right for a digraph is refused, and is none of its arcs, whatever it has.
func TestArcsThatAreNotRight(t *testing.T) {
	g, p := made(t, 2, arc(0, 1, 1, 5), arc(1, 0, 1, 5), arc(0, 0, 1, 0), arc(1, 1, 3, 1048575), arc(0, 0, 2, 0), arc(1, 0, 1, 0))
	l := append(oddArcs(), arc(0, 2, 1, 5), arc(2, 0, 1, 5), arc(2, 2, 1, 5), arc(0, 1, 1, 1048576), arc(0, 1, 1, -1))
	for _, a := range l {
		if why := wantAdd(t, g, p, a); why != api.ErrRange {
			t.Errorf("Add of %v: %d", a, why)
		}
		if why := wantDrop(t, g, p, a); why != api.ErrNone {
			t.Errorf("Drop of %v: %d", a, why)
		}
	}
	want(t, g, p)
	wantHas(t, g, p)
	none, q := made(t, 0)
	if why := wantAdd(t, none, q, arc(0, 0, 1, 0)); why != api.ErrRange {
		t.Errorf("Add of no nodes: %d", why)
	}
}

// The greatest nodes, kind and label, beside the least ones.
func TestAddAtTheEnds(t *testing.T) {
	g, p := made(t, 4096,
		arc(4095, 4095, 3, 1048575), arc(4095, 0, 1, 0), arc(0, 4095, 3, 1048575), arc(0, 0, 1, 0), arc(4095, 0, 3, 1048575), arc(0, 4095, 1, 0), arc(4095, 4095, 1, 0), arc(0, 0, 3, 1048575), arc(4094, 4095, 3, 1048575), arc(1, 0, 1, 0))
	want(t, g, p)
	wantHas(t, g, p)
	for a := range p.arcs {
		if why := g.Drop(a); why != api.OK {
			t.Errorf("Drop of %v: %d", a, why)
		}
	}
	want(t, g, plain{nodes: 4096})
}

// 22.2

// Arcs stand by From, Kind, Label and To, in all lists.
func TestInOrder(t *testing.T) {
	l := []api.Arc{
		arc(0, 9, 1, 0), arc(0, 2, 1, 1), arc(0, 3, 1, 1), arc(0, 1, 1, 1048575), arc(0, 1, 2, 0), arc(0, 0, 2, 1), arc(0, 9, 3, 0), arc(0, 0, 3, 7),
		arc(1, 9, 1, 0), arc(1, 8, 1, 5), arc(1, 0, 3, 0), arc(9, 0, 1, 0), arc(9, 9, 3, 1048575),
	}
	back := slices.Clone(l)
	slices.Reverse(back)
	for _, given := range [][]api.Arc{l, back} {
		g, _ := made(t, 10, given...)
		if got := g.Arcs(14); !slices.Equal(got, l) {
			t.Errorf("Arcs: %v", got)
		}
		if got := g.Out(0, 14); !slices.Equal(got, l[:8]) {
			t.Errorf("Out: %v", got)
		}
		if got := g.Out(0, 10); !slices.Equal(got, slices.Concat(l[:4], l[6:8])) {
			t.Errorf("Out of kinds 1 and 3: %v", got)
		}
		if got := g.Next(0, 14); !slices.Equal(got, []int{0, 1, 2, 3, 9}) {
			t.Errorf("Next: %v", got)
		}
		if got := g.Next(0, 8); !slices.Equal(got, []int{0, 9}) {
			t.Errorf("Next of kind 3: %v", got)
		}
		if got := g.Prev(9, 14); !slices.Equal(got, []int{0, 1, 9}) {
			t.Errorf("Prev: %v", got)
		}
		if got := g.Prev(9, 2); !slices.Equal(got, []int{0, 1}) {
			t.Errorf("Prev of kind 1: %v", got)
		}
	}
}

// A node is next as long as one arc, of whatever label, goes there.
func TestNextWhileArcsGo(t *testing.T) {
	g, p := made(t, 2, arc(0, 1, 1, 4), arc(0, 1, 1, 5), arc(0, 1, 3, 5))
	for _, l := range []struct {
		drop   api.Arc
		kinds1 int
		kinds3 int
	}{
		{arc(0, 1, 1, 4), 1, 1}, {arc(0, 1, 3, 5), 1, 0}, {arc(0, 1, 1, 5), 0, 0},
	} {
		wantDrop(t, g, p, l.drop)
		if next, prev := g.Next(0, 2), g.Prev(1, 2); len(next) != l.kinds1 || len(prev) != l.kinds1 {
			t.Errorf("without %v, of kind 1: %v, %v", l.drop, next, prev)
		}
		if next, prev := g.Next(0, 8), g.Prev(1, 8); len(next) != l.kinds3 || len(prev) != l.kinds3 {
			t.Errorf("without %v, of kind 3: %v, %v", l.drop, next, prev)
		}
	}
}

// 22.3

func TestNil(t *testing.T) {
	var g *digraph.Graph
	p := plain{}
	want(t, g, p)
	wantHas(t, g, p)
	for _, a := range append(oddArcs(), arc(0, 0, 1, 0), arc(0, 1, 2, 5), arc(4095, 4095, 3, 1048575)) {
		if why := wantAdd(t, g, p, a); why != api.ErrRange {
			t.Errorf("Add of %v: %d", a, why)
		}
		if why := wantDrop(t, g, p, a); why != api.ErrNone {
			t.Errorf("Drop of %v: %d", a, why)
		}
		if g.Has(a) {
			t.Errorf("it has %v", a)
		}
	}
	want(t, g, p)
}

// All of 22.1 and 22.2

// drawArc draws an arc; few ones, so that they meet.
func drawArc(from *rand.Rand, nodes int) api.Arc {
	if from.Intn(30) == 0 {
		return oddArcs()[from.Intn(len(oddArcs()))]
	}
	labels := []int{0, 1, 5, 1048575}
	return arc(from.Intn(nodes+1), from.Intn(nodes+1), 1+from.Intn(3), labels[from.Intn(len(labels))])
}

func TestOfAny(t *testing.T) {
	from := rand.New(rand.NewSource(221))
	told := map[api.Errno]int{}
	for range 60 {
		nodes := from.Intn(6)
		g, p := made(t, nodes)
		for range 200 {
			a := drawArc(from, nodes)
			if from.Intn(5) < 3 {
				told[wantAdd(t, g, p, a)]++
			} else {
				told[wantDrop(t, g, p, a)]++
			}
			if from.Intn(40) == 0 {
				want(t, g, p)
				wantHas(t, g, p)
			}
		}
		want(t, g, p)
		wantHas(t, g, p)
	}
	for _, why := range []api.Errno{api.OK, api.ErrRange, api.ErrThere, api.ErrNone} {
		if told[why] < 100 {
			t.Errorf("the error %d is too rare: %v", why, told)
		}
	}
}

// 22.4

func TestFromBothSides(t *testing.T) {
	from := rand.New(rand.NewSource(224))
	for range 40 {
		nodes := 1 + from.Intn(12)
		g, _ := made(t, nodes)
		for range from.Intn(60) {
			g.Add(drawArc(from, nodes))
			g.Drop(drawArc(from, nodes))
		}
		for _, mask := range sample.Masks() {
			var all []api.Arc
			for a := range nodes {
				all = append(all, g.Out(a, mask)...)
				for b := range nodes {
					if slices.Contains(g.Next(a, mask), b) != slices.Contains(g.Prev(b, mask), a) {
						t.Fatalf("of %v, by %d: from %d to %d", g.Arcs(14), mask, a, b)
					}
				}
			}
			if got := g.Arcs(mask); !slices.Equal(got, all) {
				t.Fatalf("Arcs of %d: %v, all that go out: %v", mask, got, all)
			}
		}
	}
}

// Many

// wheel has arcs of all kinds and many labels from one node to a few, and from each node to the next one.
func wheel(nodes, labels int) []api.Arc {
	var l []api.Arc
	for label := range labels {
		l = append(l, arc(1, label%3, 1+label%2, label), arc(1, 7, 3, label))
	}
	for node := range nodes {
		l = append(l, arc(node, (node+1)%nodes, 2, 1048575), arc(node, 0, 3, node))
	}
	return l
}

// wantWhole looks at all arcs of a digraph that has many, in one go for each mask.
func wantWhole(t *testing.T, g *digraph.Graph, sorted []api.Arc) {
	t.Helper()
	if g.Len() != len(sorted) {
		t.Fatalf("Len %d, want %d", g.Len(), len(sorted))
	}
	for _, mask := range sample.Masks() {
		rest := slices.DeleteFunc(slices.Clone(sorted), func(a api.Arc) bool { return !sample.IsOf(a.Kind, mask) })
		if got := g.Arcs(mask); !slices.Equal(got, rest) {
			t.Fatalf("Arcs of %d: %d ones, want %d", mask, len(got), len(rest))
		}
		out := slices.DeleteFunc(rest, func(a api.Arc) bool { return a.From != 1 })
		if got := g.Out(1, mask); !slices.Equal(got, out) {
			t.Fatalf("Out of 1, %d: %d ones, want %d", mask, len(got), len(out))
		}
	}
}

// In whatever order many arcs come, and go, the rest stands in order.
func TestOfMany(t *testing.T) {
	const nodes, labels = 4096, 60000
	sorted := wheel(nodes, labels)
	slices.SortFunc(sorted, compare)
	from := rand.New(rand.NewSource(225))
	for _, turn := range []func(l []api.Arc){
		func([]api.Arc) {},
		slices.Reverse[[]api.Arc],
		func(l []api.Arc) { from.Shuffle(len(l), func(i, k int) { l[i], l[k] = l[k], l[i] }) },
	} {
		l := slices.Clone(sorted)
		turn(l)
		g := digraph.New(nodes)
		for _, a := range l {
			if why := g.Add(a); why != api.OK {
				t.Fatalf("Add of %v: %d", a, why)
			}
		}
		wantWhole(t, g, sorted)
		if next := g.Next(1, 14); !slices.Equal(next, []int{0, 1, 2, 7}) {
			t.Fatalf("Next of 1: %v", next)
		}
		if prev := g.Prev(0, 8); len(prev) != nodes {
			t.Fatalf("Prev of 0: %d ones", len(prev))
		}
		turn(l)
		rest := l[len(l)-len(l)/100:]
		for _, a := range l[:len(l)-len(rest)] {
			if why := g.Drop(a); why != api.OK || g.Has(a) {
				t.Fatalf("Drop of %v: %d", a, why)
			}
		}
		slices.SortFunc(rest, compare)
		wantWhole(t, g, rest)
		for _, a := range rest {
			g.Drop(a)
		}
		want(t, g, plain{nodes: nodes})
	}
}

// Where arcs go from each node to each, of one kind or another, the nodes on both sides of one are told by each kind.
func TestFull(t *testing.T) {
	const nodes = 300
	g := digraph.New(nodes)
	for a := nodes - 1; a >= 0; a-- {
		for b := range nodes {
			if why := g.Add(arc(a, b, 1+(a+b)%3, a^b)); why != api.OK {
				t.Fatalf("Add from %d to %d: %d", a, b, why)
			}
		}
	}
	for a := range nodes {
		for kind := 1; kind <= 3; kind++ {
			var l []int
			for b := range nodes {
				if 1+(a+b)%3 == kind {
					l = append(l, b)
				}
			}
			if next, prev := g.Next(a, 1<<kind), g.Prev(a, 1<<kind); !slices.Equal(next, l) || !slices.Equal(prev, l) {
				t.Fatalf("of %d, kind %d: %v, %v", a, kind, next, prev)
			}
		}
	}
}

// Memory

func TestAnswersAreNewMemory(t *testing.T) {
	g, p := made(t, 4, arc(0, 1, 1, 5), arc(0, 2, 1, 5), arc(0, 1, 2, 5), arc(3, 1, 3, 9))
	for _, l := range [][]api.Arc{g.Arcs(14), g.Out(0, 14)} {
		if len(l) == 0 {
			t.Fatal("there is nothing")
		}
		for i := range l {
			l[i] = arc(3, 3, 3, 3)
		}
		want(t, g, p)
	}
	for _, l := range [][]int{g.Next(0, 14), g.Prev(1, 14)} {
		if len(l) == 0 {
			t.Fatal("there is nothing")
		}
		for i := range l {
			l[i] = 3
		}
		want(t, g, p)
	}
	// Digraphs are apart, one from the other.
	other, q := made(t, 4, arc(0, 1, 1, 5))
	wantDrop(t, other, q, arc(0, 1, 1, 5))
	wantAdd(t, other, q, arc(1, 1, 1, 5))
	want(t, g, p)
	want(t, other, q)
}
