package comps_test

import (
	"math"
	"math/rand"
	"slices"
	"testing"

	"tenter/api"
	"tenter/comps"
	"tenter/sample"
)

// What the chapter says, once more, by who reaches whom.

// plain has arcs, and the components that were there at the last Clean.
type plain struct {
	sample.Net
	clean []part
}

// part is a component: its nodes, rising, and its inner arcs, in order.
type part struct {
	nodes []int
	arcs  [][2]int
}

func newPlain(nodes int) *plain {
	p := &plain{Net: sample.NewNet(nodes)}
	p.clean = p.parts()
	return p
}

// parts tells the components, by their least nodes.
func (p *plain) parts() []part {
	rows := p.Rows()
	var l []part
	for node := range rows {
		var c part
		for other := range rows {
			if other == node || slices.Contains(rows[node], other) && slices.Contains(rows[other], node) {
				c.nodes = append(c.nodes, other)
			}
		}
		if c.nodes[0] == node {
			c.arcs = p.inner(c.nodes)
			l = append(l, c)
		}
	}
	return l
}

// inner tells the arcs between some nodes.
func (p *plain) inner(nodes []int) [][2]int {
	var l [][2]int
	for _, u := range nodes {
		for _, v := range nodes {
			if p.Counts[[2]int{u, v}] > 0 {
				l = append(l, [2]int{u, v})
			}
		}
	}
	return l
}

func (p *plain) stale() []int {
	var l []int
	for _, c := range p.parts() {
		was := slices.ContainsFunc(p.clean, func(o part) bool { return slices.Equal(o.nodes, c.nodes) && slices.Equal(o.arcs, c.arcs) })
		if !was {
			l = append(l, c.nodes[0])
		}
	}
	return l
}

// want looks by all calls at comps that are meant to be like those.
func want(t *testing.T, c *comps.Comps, p *plain) {
	t.Helper()
	if c.Nodes() != p.Nodes {
		t.Fatalf("Nodes: %d, want %d", c.Nodes(), p.Nodes)
	}
	rows := p.Rows()
	for _, part := range p.parts() {
		for _, node := range part.nodes {
			wantNode(t, c, node, part.nodes)
			if got := c.Round(node); got != slices.Contains(rows[node], node) {
				t.Fatalf("of %v: Round of %d: %v", p.Counts, node, got)
			}
		}
	}
	wantStale(t, c, p)
	for _, odd := range append(sample.OddNodes(), p.Nodes) {
		if label, is := c.Label(odd); label != 0 || is || len(c.Members(odd)) != 0 || c.Round(odd) {
			t.Fatalf("of %d, which is no node: %d, %v, %v, %v", odd, label, is, c.Members(odd), c.Round(odd))
		}
	}
}

// wantNode looks at a node of a component.
func wantNode(t *testing.T, c *comps.Comps, node int, members []int) {
	t.Helper()
	if label, is := c.Label(node); label != members[0] || !is {
		t.Fatalf("Label of %d: %d, %v; want %d", node, label, is, members[0])
	}
	if l := c.Members(node); !slices.Equal(l, members) {
		t.Fatalf("Members of %d: %v, want %v", node, l, members)
	}
}

func wantStale(t *testing.T, c *comps.Comps, p *plain) {
	t.Helper()
	if got, l := c.Stale(), p.stale(); !slices.Equal(got, l) {
		t.Fatalf("of %v: Stale: %v, want %v", p.Counts, got, l)
	}
}

// wantAdd adds to both, and looks at the error.
func wantAdd(t *testing.T, c *comps.Comps, p *plain, u, v int) api.Errno {
	t.Helper()
	why := p.Add(u, v)
	if got := c.Add(u, v); got != why {
		t.Fatalf("Add of %d, %d: %d, want %d", u, v, got, why)
	}
	return why
}

// wantDrop drops of both, and looks at the error.
func wantDrop(t *testing.T, c *comps.Comps, p *plain, u, v int) api.Errno {
	t.Helper()
	why := p.Drop(u, v)
	if got := c.Drop(u, v); got != why {
		t.Fatalf("Drop of %d, %d: %d, want %d", u, v, got, why)
	}
	return why
}

func clean(c *comps.Comps, p *plain) {
	c.Clean()
	p.clean = p.parts()
}

// made makes comps, and plain ones, of arcs, and cleans them.
func made(t *testing.T, nodes int, l ...[2]int) (*comps.Comps, *plain) {
	t.Helper()
	c, p := comps.New(nodes), newPlain(nodes)
	for _, arc := range l {
		if why := wantAdd(t, c, p, arc[0], arc[1]); why != api.OK {
			t.Fatalf("Add of %v: %d", arc, why)
		}
	}
	clean(c, p)
	return c, p
}

// step is an arc that comes, or goes, and what is stale then.
type step struct {
	add   bool
	u, v  int
	stale []int
}

// wantSteps does one step behind the other.
func wantSteps(t *testing.T, c *comps.Comps, p *plain, l ...step) {
	t.Helper()
	for i, s := range l {
		if s.add {
			wantAdd(t, c, p, s.u, s.v)
		} else {
			wantDrop(t, c, p, s.u, s.v)
		}
		if got := c.Stale(); !slices.Equal(got, s.stale) {
			t.Fatalf("Stale at step %d: %v, want %v", i, got, s.stale)
		}
		want(t, c, p)
	}
}

// The example of the chapter.
func TestExample(t *testing.T) {
	c, p := made(t, 3)
	wantSteps(t, c, p, step{true, 0, 1, nil}, step{true, 1, 0, []int{0}})
	if l := c.Members(1); !slices.Equal(l, []int{0, 1}) {
		t.Errorf("Members of 1: %v", l)
	}
	clean(c, p)
	wantSteps(t, c, p, step{true, 0, 1, nil}, step{false, 1, 0, []int{0, 1}})
}

// 25.1

func TestNew(t *testing.T) {
	for n, nodes := range map[int]int{
		math.MinInt: 0, -1: 0, 0: 0, 1: 1, 2: 2, 64: 64, 65: 65, 100: 100, 4095: 4095, 4096: 4096, 4097: 4096, 65537: 4096, 1<<32 + 1: 4096, math.MaxInt: 4096,
	} {
		c := comps.New(n)
		if c == nil {
			t.Fatalf("New of %d is nil", n)
		}
		if c.Nodes() != nodes || len(c.Stale()) != 0 {
			t.Fatalf("New of %d: Nodes %d, Stale %v", n, c.Nodes(), c.Stale())
		}
		if nodes <= 100 {
			want(t, c, newPlain(nodes))
		}
		if why := c.Add(nodes, 0); why != api.ErrRange {
			t.Errorf("Add from %d, of %d nodes: %d", nodes, nodes, why)
		}
		if why := c.Add(nodes-1, nodes-1); nodes > 0 && (why != api.OK || !c.Round(nodes-1)) {
			t.Errorf("Add from %d, of %d nodes: %d", nodes-1, nodes, why)
		}
	}
}

func TestArcsAreCounted(t *testing.T) {
	c, p := made(t, 3)
	wantSteps(t, c, p,
		step{true, 0, 1, nil}, step{true, 0, 1, nil}, step{true, 1, 0, []int{0}}, step{true, 2, 2, []int{0, 2}}, step{true, 2, 2, []int{0, 2}}, step{true, 1, 0, []int{0, 2}},
		step{false, 0, 1, []int{0, 2}}, step{false, 2, 2, []int{0, 2}}, step{false, 2, 2, []int{0}}, step{false, 0, 1, nil}, step{false, 1, 0, nil}, step{false, 1, 0, nil})
	for _, arc := range [][2]int{{0, 1}, {1, 0}, {2, 2}, {1, 2}} {
		if why := wantDrop(t, c, p, arc[0], arc[1]); why != api.ErrNone {
			t.Errorf("Drop of %v: %d", arc, why)
		}
	}
	want(t, c, p)
}

// What is refused changes nothing, and lets nothing be stale, nor clean.
func TestRefused(t *testing.T) {
	c, p := made(t, 3, [2]int{0, 1}, [2]int{1, 0})
	refuse := func() {
		for _, odd := range append(sample.OddNodes(), 3) {
			for _, arc := range [][2]int{{odd, 0}, {0, odd}, {odd, odd}, {1, odd}} {
				if why := c.Add(arc[0], arc[1]); why != api.ErrRange {
					t.Errorf("Add of %v: %d", arc, why)
				}
				if why := c.Drop(arc[0], arc[1]); why != api.ErrRange {
					t.Errorf("Drop of %v: %d", arc, why)
				}
			}
		}
		for _, arc := range [][2]int{{1, 1}, {0, 2}, {2, 2}, {2, 0}} {
			if why := c.Drop(arc[0], arc[1]); why != api.ErrNone {
				t.Errorf("Drop of %v: %d", arc, why)
			}
		}
		want(t, c, p)
	}
	refuse()
	wantSteps(t, c, p, step{true, 0, 0, []int{0}})
	refuse()
}

// 25.2

// A label is the least node of a component, whatever it was ahead of that, and by whatever arc components come together.
func TestLabelIsTheLeast(t *testing.T) {
	c, p := made(t, 7, [2]int{5, 6}, [2]int{6, 5}, [2]int{5, 2}, [2]int{2, 4}, [2]int{4, 2}, [2]int{1, 3}, [2]int{3, 1})
	wantSteps(t, c, p, step{true, 4, 6, []int{2}}, step{true, 3, 5, []int{2}}, step{true, 6, 1, []int{1}}, step{true, 6, 0, []int{1}}, step{true, 0, 1, []int{0}})
	for node := range 7 {
		wantNode(t, c, node, sample.UpTo(7))
	}
	wantSteps(t, c, p, step{false, 0, 1, []int{1}}, step{false, 5, 2, []int{1}}, step{false, 3, 5, nil}, step{false, 4, 6, nil})
}

// Who has an arc to itself goes round, and is alone nevertheless.
func TestArcToItself(t *testing.T) {
	c, p := made(t, 3, [2]int{0, 1})
	wantSteps(t, c, p, step{true, 1, 1, []int{1}}, step{true, 0, 0, []int{0, 1}}, step{true, 1, 0, []int{0}}, step{false, 1, 1, []int{0}}, step{false, 1, 0, []int{0}}, step{false, 0, 0, nil})
	if c.Round(0) || c.Round(1) {
		t.Errorf("one goes round yet: %v, %v", c.Round(0), c.Round(1))
	}
}

// 25.3

// What was turned, and turned back, is as it was; arcs between components are of none.
func TestThereAndBack(t *testing.T) {
	c, p := made(t, 5, [2]int{0, 1}, [2]int{1, 0}, [2]int{2, 3}, [2]int{3, 2}, [2]int{1, 2})
	wantSteps(t, c, p,
		step{true, 0, 0, []int{0}}, step{false, 0, 0, nil},
		step{false, 0, 1, []int{0, 1}}, step{true, 0, 1, nil},
		step{true, 3, 0, []int{0}}, step{false, 3, 0, nil},
		step{true, 0, 3, nil}, step{false, 1, 2, nil}, step{true, 1, 2, nil}, step{false, 0, 3, nil},
		step{true, 3, 3, []int{2}}, step{true, 3, 0, []int{0}}, step{false, 3, 3, []int{0}}, step{false, 3, 0, nil},
		step{true, 4, 4, []int{4}}, step{false, 2, 3, []int{2, 3, 4}}, step{true, 2, 3, []int{4}}, step{false, 4, 4, nil})
}

// The components have the nodes that they had; but not the arcs.
func TestInnerArcsAreOthers(t *testing.T) {
	c, p := made(t, 4, [2]int{0, 1}, [2]int{1, 2}, [2]int{2, 0}, [2]int{3, 3})
	wantSteps(t, c, p, step{true, 1, 0, []int{0}}, step{true, 2, 1, []int{0}}, step{true, 0, 2, []int{0}}, step{false, 0, 1, []int{0}}, step{false, 1, 2, []int{0}}, step{false, 2, 0, []int{0}})
	clean(c, p)
	want(t, c, p)
	// An arc between two that come together and part again is as it was, though it is one that came between.
	wantSteps(t, c, p, step{false, 1, 0, []int{0, 1, 2}}, step{true, 1, 3, []int{0, 1, 2}}, step{true, 3, 1, []int{0, 1, 2}}, step{true, 1, 0, []int{0}}, step{false, 3, 1, nil}, step{false, 1, 3, nil})
}

// An arc that came between two components ahead of the Clean is none that was touched, when they come together behind it.
func TestCleanInBetween(t *testing.T) {
	c, p := made(t, 3)
	wantSteps(t, c, p, step{true, 0, 1, nil})
	clean(c, p)
	wantSteps(t, c, p, step{true, 1, 0, []int{0}}, step{false, 0, 1, nil})
	clean(c, p)
	wantSteps(t, c, p, step{true, 0, 1, []int{0}}, step{false, 1, 0, nil}, step{true, 1, 0, []int{0}})
	clean(c, p)
	clean(c, p)
	want(t, c, p)
	wantSteps(t, c, p, step{false, 0, 1, []int{0, 1}}, step{true, 0, 1, nil})
}

// 25.4

func TestNil(t *testing.T) {
	var c *comps.Comps
	p := newPlain(0)
	want(t, c, p)
	for _, u := range append(sample.OddNodes(), 0, 1, 4095) {
		for _, v := range append(sample.OddNodes(), 0, 1, 4095) {
			wantAdd(t, c, p, u, v)
			wantDrop(t, c, p, u, v)
		}
	}
	c.Clean()
	want(t, c, p)
}

// All of 25.1 to 25.3

func TestOfAny(t *testing.T) {
	from := rand.New(rand.NewSource(251))
	told, stale := map[api.Errno]int{}, map[int]int{}
	for range 200 {
		nodes := from.Intn(8)
		c, p := made(t, nodes)
		adds := 2 + from.Intn(4)
		for range 120 {
			u, v := from.Intn(nodes+1), from.Intn(nodes+1)
			if from.Intn(30) == 0 {
				u = sample.OddNodes()[from.Intn(len(sample.OddNodes()))]
			}
			switch {
			case from.Intn(8) < adds:
				told[wantAdd(t, c, p, u, v)]++
			case from.Intn(12) == 0:
				clean(c, p)
			default:
				told[wantDrop(t, c, p, u, v)]++
			}
			wantStale(t, c, p)
			stale[len(c.Stale())]++
			if from.Intn(10) == 0 {
				want(t, c, p)
			}
		}
		want(t, c, p)
	}
	for _, why := range []api.Errno{api.OK, api.ErrRange, api.ErrNone} {
		if told[why] < 100 {
			t.Errorf("the error %d is too rare: %v", why, told)
		}
	}
	for n := range 5 {
		if stale[n] < 100 {
			t.Errorf("%d that are stale are too rare: %v", n, stale)
		}
	}
}

// Nodes of several words.
func TestOfMore(t *testing.T) {
	from := rand.New(rand.NewSource(252))
	for range 6 {
		nodes := 60 + from.Intn(40)
		c, p := made(t, nodes)
		for i := range 300 {
			if u, v := from.Intn(nodes), from.Intn(nodes); from.Intn(4) > 0 {
				wantAdd(t, c, p, u, v)
			}
			for arc := range p.Counts {
				if from.Intn(nodes*2) == 0 {
					wantDrop(t, c, p, arc[0], arc[1])
				}
			}
			if i%30 == 29 {
				want(t, c, p)
			}
			if i%50 == 49 {
				clean(c, p)
			}
		}
	}
}

// 25.5

func TestWhatIsNotStaleIsAsItWas(t *testing.T) {
	from := rand.New(rand.NewSource(255))
	notStale := 0
	for range 150 {
		nodes := 1 + from.Intn(12)
		c, p := made(t, nodes)
		for range nodes {
			wantAdd(t, c, p, from.Intn(nodes), from.Intn(nodes))
		}
		clean(c, p)
		was := p.Rows()
		touched := map[int]bool{}
		for range from.Intn(5) {
			u, v := from.Intn(nodes), from.Intn(nodes)
			touched[u], touched[v] = true, true
			if from.Intn(2) == 0 {
				wantAdd(t, c, p, u, v)
			} else {
				wantDrop(t, c, p, u, v)
			}
		}
		stale, rows := c.Stale(), p.Rows()
		for _, part := range p.clean {
			same := !slices.ContainsFunc(part.nodes, func(node int) bool { return touched[node] || !slices.Equal(rows[node], was[node]) })
			if !same {
				continue
			}
			notStale++
			if wantNode(t, c, part.nodes[0], part.nodes); slices.Contains(stale, part.nodes[0]) {
				t.Fatalf("%v is stale, though it is as it was", part)
			}
		}
		for node := range nodes {
			label, _ := c.Label(node)
			if !slices.Contains(stale, label) && !slices.ContainsFunc(p.clean, func(o part) bool { return slices.Equal(o.nodes, c.Members(node)) }) {
				t.Fatalf("%v is not stale, and was not there", c.Members(node))
			}
		}
	}
	if notStale < 200 {
		t.Errorf("too few that are not stale: %d", notStale)
	}
}

// Many

// A ring of all nodes breaks, in the middle and at its ends, and is whole again.
func TestRingOfAllNodes(t *testing.T) {
	c := comps.New(api.MaxNodes)
	for node := range api.MaxNodes {
		c.Add(node, (node+1)%api.MaxNodes)
	}
	wantNode(t, c, 4095, sample.UpTo(api.MaxNodes))
	if l := c.Stale(); !slices.Equal(l, []int{0}) || !c.Round(77) {
		t.Fatalf("Stale: %v", l)
	}
	c.Clean()
	for _, node := range []int{0, 777, 4094, 4095} {
		c.Drop(node, (node+1)%api.MaxNodes)
		if l := c.Stale(); !slices.Equal(l, sample.UpTo(api.MaxNodes)) || c.Round(77) {
			t.Fatalf("without the arc from %d: Stale: %d ones", node, len(l))
		}
		wantNode(t, c, 4095, []int{4095})
		c.Add(node, (node+1)%api.MaxNodes)
		wantNode(t, c, 4095, sample.UpTo(api.MaxNodes))
		if l := c.Stale(); len(l) != 0 {
			t.Fatalf("with the arc from %d again: Stale: %d ones", node, len(l))
		}
	}
}

// Many small rounds of one great one.
func TestRoundOfPairs(t *testing.T) {
	c := comps.New(api.MaxNodes)
	for node := 0; node < api.MaxNodes; node += 2 {
		c.Add(node, node+1)
		c.Add(node+1, node)
		c.Add(node+1, (node+2)%api.MaxNodes)
	}
	wantNode(t, c, 4095, sample.UpTo(api.MaxNodes))
	c.Clean()
	c.Drop(2001, 2002)
	var even []int
	for node := 0; node < api.MaxNodes; node += 2 {
		even = append(even, node)
		wantNode(t, c, node+1, []int{node, node + 1})
	}
	if l := c.Stale(); !slices.Equal(l, even) {
		t.Fatalf("Stale: %d ones", len(l))
	}
}

// Memory

func TestAnswersAreNewMemory(t *testing.T) {
	c, p := made(t, 5, [2]int{0, 1}, [2]int{1, 0}, [2]int{2, 3}, [2]int{3, 2}, [2]int{4, 4})
	wantAdd(t, c, p, 0, 0)
	wantAdd(t, c, p, 3, 3)
	for _, told := range [][]int{c.Members(0), c.Members(3), c.Members(4), c.Stale()} {
		_ = append(told, 9)
		for i := range told {
			told[i] = 4
		}
		want(t, c, p)
	}
	c.Clean()
	c.Members(0)[1] = 4
	clean(c, p)
	want(t, c, p)
}
