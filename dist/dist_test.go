package dist_test

import (
	"cmp"
	"math"
	"math/rand"
	"slices"
	"testing"

	"tenter/api"
	"tenter/digraph"
	"tenter/dist"
	"tenter/sample"
)

// What the chapter says, once more, by all walks of one arc, two arcs, and so on.

// plain has a digraph's nodes and arcs.
type plain struct {
	nodes int
	arcs  []api.Arc
}

// ends tells from which nodes there is a walk to one, of so many arcs, without arcs of must, or with one or more.
type ends map[[2]int]bool

// step tells those from which there is a walk of one arc more.
func (p plain) step(was ends, mask, must, least int) ends {
	is := ends{}
	for at := range was {
		for _, a := range p.arcs {
			if a.To != at[0] || !sample.IsOf(a.Kind, mask) || a.From < least {
				continue
			}
			with := at[1]
			if sample.IsOf(a.Kind, must) {
				with = 1
			}
			is[[2]int{a.From, with}] = true
		}
	}
	return is
}

// lengths tells the least lengths of walks to a node without arcs of must, and of those with one or more.
func (p plain) lengths(mask, must, node, least int) (l [2][]int) {
	for with := range l {
		for range p.nodes {
			l[with] = append(l[with], -1)
		}
	}
	if node < 0 || node >= p.nodes || node < least {
		return l
	}
	is := ends{{node, 0}: true}
	for steps := range 2*p.nodes + 1 {
		for at := range is {
			if l[at[1]][at[0]] < 0 {
				l[at[1]][at[0]] = steps
			}
		}
		is = p.step(is, mask, must, least)
	}
	return l
}

// first tells the first of all walks of so many arcs.
func (p plain) first(mask, from, to, least, arcs int) ([]api.Arc, bool) {
	if arcs == 0 {
		return nil, from == to && from >= 0 && from < p.nodes && from >= least
	}
	var best []api.Arc
	for _, a := range p.arcs {
		if a.From != from || !sample.IsOf(a.Kind, mask) || a.From < least || a.To < least {
			continue
		}
		if rest, is := p.first(mask, a.To, to, least, arcs-1); is {
			if l := append([]api.Arc{a}, rest...); best == nil || slices.CompareFunc(l, best, compare) < 0 {
				best = l
			}
		}
	}
	return best, best != nil
}

// way tells the first of the shortest walks.
func (p plain) way(mask, from, to, least int) ([]api.Arc, bool) {
	for arcs := range p.nodes {
		if l, is := p.first(mask, from, to, least, arcs); is {
			return l, true
		}
	}
	return nil, false
}

func compare(a, b api.Arc) int {
	return cmp.Or(cmp.Compare(a.Kind, b.Kind), cmp.Compare(a.Label, b.Label), cmp.Compare(a.To, b.To))
}

func arc(from, to, kind, label int) api.Arc {
	return api.Arc{From: from, To: to, Kind: kind, Label: label}
}

// want looks at what is told of walks to a node.
func want(t *testing.T, g *digraph.Graph, p plain, mask, must, node, least int) {
	t.Helper()
	if got, l := dist.To(g, mask, node, least), p.lengths(mask, 0, node, least)[0]; !slices.Equal(got, l) {
		t.Fatalf("of %v: To of %d, %d, %d: %v, want %v", p.arcs, mask, node, least, got, l)
	}
	if got, l := dist.Must(g, mask, must, node, least), p.lengths(mask, must, node, least)[1]; !slices.Equal(got, l) {
		t.Fatalf("of %v: Must of %d, %d, %d, %d: %v, want %v", p.arcs, mask, must, node, least, got, l)
	}
}

// wantWay looks at the first of the shortest walks.
func wantWay(t *testing.T, g *digraph.Graph, p plain, mask, from, to, least int) {
	t.Helper()
	l, is := p.way(mask, from, to, least)
	if got, there := dist.Way(g, mask, from, to, least); !slices.Equal(got, l) || there != is {
		t.Fatalf("of %v: Way of %d, %d, %d, %d: %v, %v; want %v, %v", p.arcs, mask, from, to, least, got, there, l, is)
	}
}

// wantAll looks at all nodes, by all masks.
func wantAll(t *testing.T, nodes int, l ...api.Arc) {
	t.Helper()
	g, p := sample.Digraph(nodes, l...), plain{nodes, l}
	numbers := []int{-1, math.MinInt, math.MaxInt}
	for node := range nodes + 2 {
		numbers = append(numbers, node)
	}
	for i, mask := range sample.Masks() {
		for _, node := range numbers {
			for _, least := range numbers {
				want(t, g, p, mask, sample.Masks()[(i*3+node&7+5)%len(sample.Masks())], node, least)
			}
		}
	}
}

// all tells a list of so many of one number.
func all(nodes, x int) []int {
	var l []int
	for range nodes {
		l = append(l, x)
	}
	return l
}

// The example of the chapter.
func TestExample(t *testing.T) {
	g := sample.Digraph(3, arc(0, 1, 1, 0), arc(1, 2, 3, 0), arc(0, 2, 1, 0))
	if l := dist.To(g, 14, 2, 0); !slices.Equal(l, []int{1, 1, 0}) {
		t.Errorf("To 2: %v", l)
	}
	if l := dist.Must(g, 14, 8, 2, 0); !slices.Equal(l, []int{2, 1, -1}) {
		t.Errorf("Must of 3's bit, 2: %v", l)
	}
}

// 26.1

func TestWithoutArcs(t *testing.T) {
	for _, nodes := range []int{0, 1, 2, 5} {
		wantAll(t, nodes)
	}
	g := digraph.New(4096)
	l := all(4096, -1)
	if got := dist.Must(g, -1, -1, 7, 0); !slices.Equal(got, l) {
		t.Errorf("Must of 4096 nodes: %v", got)
	}
	l[4095] = 0
	if got := dist.To(g, -1, 4095, 4095); !slices.Equal(got, l) {
		t.Errorf("To of 4096 nodes: %v", got)
	}
}

func TestNodesThatAreNone(t *testing.T) {
	g := sample.Digraph(3, arc(0, 1, 1, 5), arc(1, 2, 1, 5), arc(2, 0, 1, 5), arc(1, 1, 1, 5))
	for _, odd := range append(sample.OddNodes(), 3) {
		if l := dist.To(g, -1, odd, math.MinInt); !slices.Equal(l, []int{-1, -1, -1}) {
			t.Errorf("To %d: %v", odd, l)
		}
		if l := dist.Must(g, -1, 2, odd, math.MinInt); !slices.Equal(l, []int{-1, -1, -1}) {
			t.Errorf("Must to %d: %v", odd, l)
		}
		for _, pair := range [][2]int{{odd, 1}, {1, odd}, {odd, odd}} {
			if l, is := dist.Way(g, -1, pair[0], pair[1], math.MinInt); len(l) != 0 || is {
				t.Errorf("Way of %v: %v, %v", pair, l, is)
			}
		}
	}
}

// The least node need be none; those below it are not met, not even as the first or the last one.
func TestLeast(t *testing.T) {
	l := []api.Arc{arc(3, 0, 1, 5), arc(0, 4, 1, 5), arc(3, 2, 1, 5), arc(2, 1, 1, 5), arc(1, 4, 1, 5), arc(4, 4, 3, 5)}
	wantAll(t, 5, l...)
	g := sample.Digraph(5, l...)
	for least, l := range map[int][]int{
		math.MinInt: {1, 1, 2, 2, 0}, -1: {1, 1, 2, 2, 0}, 0: {1, 1, 2, 2, 0}, 1: {-1, 1, 2, 3, 0}, 2: {-1, -1, -1, -1, 0}, 4: {-1, -1, -1, -1, 0}, 5: {-1, -1, -1, -1, -1}, math.MaxInt: {-1, -1, -1, -1, -1},
	} {
		if got := dist.To(g, 14, 4, least); !slices.Equal(got, l) {
			t.Errorf("To 4 above %d: %v", least, got)
		}
	}
	if got := dist.Must(g, 14, 8, 4, 1); !slices.Equal(got, []int{-1, 2, 3, 4, 1}) {
		t.Errorf("Must to 4 above 1: %v", got)
	}
}

// The shortest walk with an arc of must need not be as long as the shortest, nor meet each node once.
func TestMust(t *testing.T) {
	l := []api.Arc{arc(0, 1, 1, 5), arc(1, 2, 1, 5), arc(1, 3, 2, 5), arc(3, 1, 1, 5), arc(4, 4, 3, 5), arc(4, 2, 1, 5), arc(2, 4, 2, 7)}
	wantAll(t, 5, l...)
	g := sample.Digraph(5, l...)
	for _, x := range []struct {
		mask, must, node int
		want             []int
	}{
		{6, 4, 2, []int{4, 3, 2, 4, 3}}, {6, 2, 2, []int{2, 1, 2, 2, 1}}, {14, 8, 2, []int{5, 4, 3, 5, 2}}, {14, 6, 2, []int{2, 1, 2, 2, 1}},
		{2, 4, 2, []int{-1, -1, -1, -1, -1}}, {14, 0, 2, []int{-1, -1, -1, -1, -1}}, {14, 1 | 16, 2, []int{-1, -1, -1, -1, -1}}, {8, 8, 4, []int{-1, -1, -1, -1, 1}},
	} {
		if got := dist.Must(g, x.mask, x.must, x.node, 0); !slices.Equal(got, x.want) {
			t.Errorf("Must of %d, %d, %d: %v, want %v", x.mask, x.must, x.node, got, x.want)
		}
	}
}

// Where arcs of both kinds go between two nodes, one of them is of must.
func TestMustBesideOthers(t *testing.T) {
	l := []api.Arc{arc(0, 1, 1, 5), arc(0, 1, 2, 5), arc(1, 2, 1, 5), arc(2, 3, 1, 5), arc(2, 3, 3, 5)}
	wantAll(t, 4, l...)
	g := sample.Digraph(4, l...)
	if got := dist.Must(g, 14, 4, 3, 0); !slices.Equal(got, []int{3, -1, -1, -1}) {
		t.Errorf("Must of 2's bit: %v", got)
	}
	if got := dist.Must(g, 14, 12, 3, 0); !slices.Equal(got, []int{3, 2, 1, -1}) {
		t.Errorf("Must of 2's bit, and 3's: %v", got)
	}
	if got := dist.Must(g, 6, 12, 3, 0); !slices.Equal(got, []int{3, -1, -1, -1}) {
		t.Errorf("Must of both, without those of 3: %v", got)
	}
}

func TestOfAny(t *testing.T) {
	from := rand.New(rand.NewSource(261))
	longer := 0
	for range 1500 {
		nodes := from.Intn(8)
		l := sample.DrawArcs(from.Intn, nodes, from.Intn(3*nodes+1))
		g, p := sample.Digraph(nodes, l...), plain{nodes, l}
		for range 25 {
			mask, must := sample.Masks()[from.Intn(len(sample.Masks()))], sample.Masks()[from.Intn(len(sample.Masks()))]
			if from.Intn(2) == 0 {
				mask, must = 14, 2<<from.Intn(3)
			}
			node, least := from.Intn(nodes+1), from.Intn(nodes+2)-1
			if from.Intn(20) == 0 {
				node = sample.OddNodes()[from.Intn(len(sample.OddNodes()))]
			}
			if from.Intn(2) == 0 {
				least = min(least, node, 1)
			}
			want(t, g, p, mask, must, node, least)
			if slices.Max(append(dist.Must(g, mask, must, node, least), -1)) > 4 {
				longer++
			}
		}
		if g.Len() != len(l) {
			t.Fatalf("of %d arcs %d are left", len(l), g.Len())
		}
	}
	if longer < 100 {
		t.Errorf("too few walks that are long: %d", longer)
	}
}

// 26.2

func TestWay(t *testing.T) {
	l := []api.Arc{arc(0, 2, 1, 5), arc(0, 1, 1, 5), arc(0, 3, 1, 4), arc(0, 1, 2, 0), arc(1, 4, 3, 7), arc(1, 4, 3, 6), arc(2, 4, 1, 0), arc(3, 4, 3, 1048575), arc(0, 5, 1, 0), arc(5, 0, 1, 0), arc(4, 4, 1, 0)}
	g, p := sample.Digraph(6, l...), plain{6, l}
	for _, x := range []struct {
		mask, from, to, least int
		want                  []api.Arc
		is                    bool
	}{
		{14, 0, 4, 0, []api.Arc{arc(0, 3, 1, 4), arc(3, 4, 3, 1048575)}, true},
		{2, 0, 4, 0, []api.Arc{arc(0, 2, 1, 5), arc(2, 4, 1, 0)}, true},
		{12, 0, 4, 0, []api.Arc{arc(0, 1, 2, 0), arc(1, 4, 3, 6)}, true},
		{14, 5, 4, 0, []api.Arc{arc(5, 0, 1, 0), arc(0, 3, 1, 4), arc(3, 4, 3, 1048575)}, true},
		{14, 0, 4, 1, nil, false}, {14, 5, 5, 5, nil, true}, {14, 5, 5, 6, nil, false}, {0, 3, 3, -7, nil, true}, {14, 4, 0, 0, nil, false}, {4, 0, 4, 0, nil, false},
		{14, 4, 4, 0, nil, true}, {14, 1, 4, 1, []api.Arc{arc(1, 4, 3, 6)}, true}, {14, 1, 4, 2, nil, false},
	} {
		got, is := dist.Way(g, x.mask, x.from, x.to, x.least)
		if !slices.Equal(got, x.want) || is != x.is {
			t.Errorf("Way of %d, %d, %d, %d: %v, %v", x.mask, x.from, x.to, x.least, got, is)
		}
		wantWay(t, g, p, x.mask, x.from, x.to, x.least)
	}
}

// Of walks that are not the same at their first arc, the To says just what Kind and Label don't; and what is behind says nothing.
func TestWayIsFirst(t *testing.T) {
	rest := []api.Arc{arc(1, 3, 1, 0), arc(2, 3, 3, 9)}
	for _, x := range []struct {
		a, b  api.Arc
		first int
	}{
		{arc(0, 1, 2, 5), arc(0, 2, 1, 5), 1}, {arc(0, 1, 1, 5), arc(0, 2, 1, 4), 1}, {arc(0, 1, 1, 5), arc(0, 2, 1, 5), 0}, {arc(0, 1, 2, 5), arc(0, 2, 1, 7), 1}, {arc(0, 1, 3, 4), arc(0, 2, 1, 5), 1}, {arc(0, 1, 1, 5), arc(0, 2, 2, 4), 0},
	} {
		g := sample.Digraph(4, append(rest, x.a, x.b)...)
		want := []api.Arc{[]api.Arc{x.a, x.b}[x.first], rest[x.first]}
		if got, is := dist.Way(g, 14, 0, 3, 0); !slices.Equal(got, want) || !is {
			t.Errorf("of %v and %v: %v, %v", x.a, x.b, got, is)
		}
	}
}

func TestWayOfAny(t *testing.T) {
	from := rand.New(rand.NewSource(262))
	lengths := map[int]int{}
	for range 1500 {
		nodes := from.Intn(8)
		l := sample.DrawArcs(from.Intn, nodes, from.Intn(2*nodes+1))
		g, p := sample.Digraph(nodes, l...), plain{nodes, l}
		for range 20 {
			mask := sample.Masks()[from.Intn(len(sample.Masks()))]
			if from.Intn(2) == 0 {
				mask = 14
			}
			a, b, least := from.Intn(nodes+1), from.Intn(nodes+1), from.Intn(nodes+2)-1
			if from.Intn(2) == 0 {
				least = min(least, a, b)
			}
			wantWay(t, g, p, mask, a, b, least)
			if way, is := dist.Way(g, mask, a, b, least); is {
				lengths[len(way)]++
			}
		}
	}
	for n := range 4 {
		if lengths[n] < 50 {
			t.Errorf("ways of %d arcs are too rare: %v", n, lengths)
		}
	}
}

// 26.3

func TestNil(t *testing.T) {
	for _, node := range append(sample.OddNodes(), 0, 1, 4095) {
		for _, mask := range sample.Masks() {
			if l := dist.To(nil, mask, node, node); len(l) != 0 {
				t.Fatalf("To %d: %v", node, l)
			}
			if l := dist.Must(nil, mask, mask, node, 0); len(l) != 0 {
				t.Fatalf("Must to %d: %v", node, l)
			}
			if l, is := dist.Way(nil, mask, node, 0, 0); len(l) != 0 || is {
				t.Fatalf("Way from %d: %v, %v", node, l, is)
			}
			if l, is := dist.Way(nil, mask, node, node, node); len(l) != 0 || is {
				t.Fatalf("Way from %d to itself: %v, %v", node, l, is)
			}
		}
	}
}

// 26.4

func TestSteps(t *testing.T) {
	from := rand.New(rand.NewSource(264))
	for range 60 {
		nodes := 1 + from.Intn(150)
		g := sample.Digraph(nodes, sample.DrawArcs(from.Intn, nodes, 3*nodes)...)
		for _, mask := range []int{2, 6, 12, 14, -1} {
			node, least := from.Intn(nodes), from.Intn(nodes)/4
			left := dist.To(g, mask, node, least)
			nearer := map[int]bool{}
			for _, a := range g.Arcs(mask) {
				if left[a.To] < 0 || a.From < least {
					continue
				}
				if left[a.From] < 0 || left[a.From] > left[a.To]+1 {
					t.Fatalf("%d from %d, and %v leads to one with %d", left[a.From], a.From, a, left[a.To])
				}
				nearer[a.From] = nearer[a.From] || left[a.From] == left[a.To]+1
			}
			for at, n := range left {
				if n > 0 && !nearer[at] || n == 0 && at != node || at < least && n >= 0 {
					t.Fatalf("%d from %d, to %d above %d", n, at, node, least)
				}
			}
		}
	}
}

// Many

// On a ring of all nodes the ways are as long as they can be.
func TestRingOfAllNodes(t *testing.T) {
	g := digraph.New(api.MaxNodes)
	for node := range api.MaxNodes {
		g.Add(arc(node, (node+api.MaxNodes-1)%api.MaxNodes, 1+node%2, node))
	}
	if l := dist.To(g, 6, 0, 0); !slices.Equal(l, sample.UpTo(api.MaxNodes)) {
		t.Fatalf("To 0: %d ones", len(l))
	}
	g.Add(arc(4095, 4095, 3, 0))
	l := sample.UpTo(api.MaxNodes)
	for node := range l {
		l[node] += 4097
	}
	l[4095] = 4096
	if got := dist.Must(g, 14, 8, 0, 0); !slices.Equal(got, l) {
		t.Fatalf("Must to 0: %v", got[4090:])
	}
	way, is := dist.Way(g, 6, 4095, 0, 0)
	if len(way) != 4095 || !is || way[0] != arc(4095, 4094, 2, 4095) || way[4094] != arc(1, 0, 2, 1) {
		t.Fatalf("Way from 4095 to 0: %d arcs, %v", len(way), is)
	}
}

// Memory

func TestAnswersAreNewMemory(t *testing.T) {
	l := []api.Arc{arc(0, 1, 1, 5), arc(1, 2, 1, 5), arc(2, 0, 2, 5)}
	g, p := sample.Digraph(3, l...), plain{3, l}
	for _, told := range [][]int{dist.To(g, 14, 2, 0), dist.Must(g, 14, 4, 2, 0)} {
		for i := range told {
			told[i] = 9
		}
		want(t, g, p, 14, 4, 2, 0)
	}
	way, _ := dist.Way(g, 14, 0, 2, 0)
	for i := range way {
		way[i] = api.Arc{}
	}
	wantWay(t, g, p, 14, 0, 2, 0)
	want(t, g, p, 14, 4, 2, 0)
}
