package closure_test

import (
	"math"
	"math/rand"
	"slices"
	"testing"

	"tenter/api"
	"tenter/closure"
	"tenter/sample"
)

// What the chapter says, once more, by going along arcs from each node.

// plain has arcs, and whose rows the last call that told OK made other ones.
type plain struct {
	sample.Net
	last []int
}

func newPlain(nodes int) *plain { return &plain{Net: sample.NewNet(nodes)} }

// change does what is to be done, and finds out whose rows that makes other ones.
func (p *plain) change(u, v int, do func(u, v int) api.Errno) api.Errno {
	was := p.Rows()
	why := do(u, v)
	if why != api.OK {
		return why
	}
	p.last = nil
	for node, row := range p.Rows() {
		if !slices.Equal(row, was[node]) {
			p.last = append(p.last, node)
		}
	}
	return why
}

// want looks by all calls at a closure that is meant to be like that.
func want(t *testing.T, c *closure.Closure, p *plain) {
	t.Helper()
	if c.Nodes() != p.Nodes {
		t.Fatalf("Nodes: %d, want %d", c.Nodes(), p.Nodes)
	}
	for u, row := range p.Rows() {
		if got := c.Row(u); !slices.Equal(got, row) {
			t.Fatalf("of %v: Row of %d: %v, want %v", p.Counts, u, got, row)
		}
		for v := range p.Nodes {
			if got := c.Reaches(u, v); got != slices.Contains(row, v) {
				t.Fatalf("of %v: Reaches %d, %d: %v", p.Counts, u, v, got)
			}
			if got := c.Arcs(u, v); got != p.Counts[[2]int{u, v}] {
				t.Fatalf("of %v: Arcs %d, %d: %d", p.Counts, u, v, got)
			}
		}
	}
	wantLast(t, c, p)
	for _, odd := range append(sample.OddNodes(), p.Nodes) {
		wantNone(t, c, odd)
	}
}

func wantLast(t *testing.T, c *closure.Closure, p *plain) {
	t.Helper()
	if got := c.Last(); !slices.Equal(got, p.last) {
		t.Fatalf("of %v: Last: %v, want %v", p.Counts, got, p.last)
	}
}

// wantNone asks of what is no node.
func wantNone(t *testing.T, c *closure.Closure, odd int) {
	t.Helper()
	if l := c.Row(odd); len(l) != 0 {
		t.Fatalf("Row of %d, which is no node: %v", odd, l)
	}
	for _, pair := range [][2]int{{odd, 0}, {0, odd}, {1, odd}, {odd, odd}} {
		if c.Reaches(pair[0], pair[1]) || c.Arcs(pair[0], pair[1]) != 0 {
			t.Fatalf("of %v, not both of them nodes: %v, %d", pair, c.Reaches(pair[0], pair[1]), c.Arcs(pair[0], pair[1]))
		}
	}
}

// wantRows looks at the rows, and at the last ones that were made others.
func wantRows(t *testing.T, c *closure.Closure, p *plain) {
	t.Helper()
	for u, row := range p.Rows() {
		if got := c.Row(u); !slices.Equal(got, row) {
			t.Fatalf("of %v: Row of %d: %v, want %v", p.Counts, u, got, row)
		}
	}
	wantLast(t, c, p)
}

// wantAdd adds to both, and looks at the error.
func wantAdd(t *testing.T, c *closure.Closure, p *plain, u, v int) api.Errno {
	t.Helper()
	why := p.change(u, v, p.Add)
	if got := c.Add(u, v); got != why {
		t.Fatalf("Add of %d, %d: %d, want %d", u, v, got, why)
	}
	return why
}

// wantDrop drops of both, and looks at the error.
func wantDrop(t *testing.T, c *closure.Closure, p *plain, u, v int) api.Errno {
	t.Helper()
	why := p.change(u, v, p.Drop)
	if got := c.Drop(u, v); got != why {
		t.Fatalf("Drop of %d, %d: %d, want %d", u, v, got, why)
	}
	return why
}

// made makes a closure, and a plain one, of arcs.
func made(t *testing.T, nodes int, l ...[2]int) (*closure.Closure, *plain) {
	t.Helper()
	c, p := closure.New(nodes), newPlain(nodes)
	for _, arc := range l {
		if why := wantAdd(t, c, p, arc[0], arc[1]); why != api.OK {
			t.Fatalf("Add of %v: %d", arc, why)
		}
	}
	return c, p
}

// The example of the chapter.
func TestExample(t *testing.T) {
	c, p := made(t, 3, [2]int{0, 1}, [2]int{1, 2})
	if l := c.Row(0); !slices.Equal(l, []int{1, 2}) {
		t.Errorf("Row of 0: %v", l)
	}
	wantAdd(t, c, p, 2, 0)
	for node := range 3 {
		if l := c.Row(node); !slices.Equal(l, []int{0, 1, 2}) {
			t.Errorf("Row of %d: %v", node, l)
		}
	}
	if l := c.Last(); !slices.Equal(l, []int{0, 1, 2}) {
		t.Errorf("Last: %v", l)
	}
	want(t, c, p)
}

// 24.1

func TestNew(t *testing.T) {
	for n, nodes := range map[int]int{
		math.MinInt: 0, -1: 0, 0: 0, 1: 1, 2: 2, 64: 64, 65: 65, 300: 300, 4095: 4095, 4096: 4096, 4097: 4096, 65537: 4096, 1<<32 + 1: 4096, math.MaxInt: 4096,
	} {
		c := closure.New(n)
		if c == nil {
			t.Fatalf("New of %d is nil", n)
		}
		if c.Nodes() != nodes || len(c.Last()) != 0 {
			t.Fatalf("New of %d: Nodes %d, Last %v", n, c.Nodes(), c.Last())
		}
		if nodes <= 300 {
			want(t, c, newPlain(nodes))
		}
		if why := c.Add(nodes, 0); why != api.ErrRange {
			t.Errorf("Add from %d, of %d nodes: %d", nodes, nodes, why)
		}
		if why := c.Add(nodes-1, nodes-1); nodes > 0 && (why != api.OK || !c.Reaches(nodes-1, nodes-1)) {
			t.Errorf("Add from %d, of %d nodes: %d", nodes-1, nodes, why)
		}
	}
}

func TestArcsAreCounted(t *testing.T) {
	c, p := made(t, 3)
	for _, arc := range [][2]int{{0, 1}, {0, 1}, {1, 0}, {2, 2}, {0, 1}, {2, 2}} {
		wantAdd(t, c, p, arc[0], arc[1])
		want(t, c, p)
	}
	if c.Arcs(0, 1) != 3 || c.Arcs(1, 0) != 1 || c.Arcs(2, 2) != 2 {
		t.Fatalf("Arcs: %d, %d, %d", c.Arcs(0, 1), c.Arcs(1, 0), c.Arcs(2, 2))
	}
	for _, l := range []struct {
		u, v int
		want api.Errno
	}{
		{0, 1, api.OK}, {0, 1, api.OK}, {0, 1, api.OK}, {0, 1, api.ErrNone}, {1, 0, api.OK}, {1, 0, api.ErrNone}, {2, 1, api.ErrNone}, {2, 2, api.OK}, {2, 2, api.OK}, {2, 2, api.ErrNone},
	} {
		if why := wantDrop(t, c, p, l.u, l.v); why != l.want {
			t.Errorf("Drop of %d, %d: %d, want %d", l.u, l.v, why, l.want)
		}
		want(t, c, p)
	}
}

// What is refused changes nothing, not even whose rows were made others last.
func TestRefused(t *testing.T) {
	c, p := made(t, 3, [2]int{0, 1}, [2]int{1, 2})
	if l := c.Last(); !slices.Equal(l, []int{0, 1}) {
		t.Fatalf("Last: %v", l)
	}
	for _, odd := range append(sample.OddNodes(), 3) {
		for _, arc := range [][2]int{{odd, 0}, {0, odd}, {odd, odd}, {1, odd}} {
			if why := c.Add(arc[0], arc[1]); why != api.ErrRange {
				t.Errorf("Add of %v: %d", arc, why)
			}
			if why := c.Drop(arc[0], arc[1]); why != api.ErrRange {
				t.Errorf("Drop of %v: %d", arc, why)
			}
		}
	}
	for _, arc := range [][2]int{{1, 0}, {0, 2}, {2, 2}, {2, 0}} {
		if why := c.Drop(arc[0], arc[1]); why != api.ErrNone {
			t.Errorf("Drop of %v: %d", arc, why)
		}
	}
	want(t, c, p)
}

// 24.2

func TestWhoReachesItself(t *testing.T) {
	c, p := made(t, 4, [2]int{0, 1}, [2]int{1, 2})
	if c.Reaches(0, 0) || c.Reaches(1, 1) || c.Reaches(3, 3) {
		t.Errorf("one reaches itself without arcs")
	}
	wantAdd(t, c, p, 3, 3)
	wantAdd(t, c, p, 1, 1)
	want(t, c, p)
	if !c.Reaches(1, 1) || !c.Reaches(3, 3) || c.Reaches(0, 0) {
		t.Errorf("by an arc to itself: %v, %v, %v", c.Reaches(1, 1), c.Reaches(3, 3), c.Reaches(0, 0))
	}
	wantAdd(t, c, p, 1, 0)
	want(t, c, p)
	// Whoever still has another way to itself, reaches itself still.
	wantDrop(t, c, p, 1, 1)
	want(t, c, p)
	if l := c.Last(); len(l) != 0 || !c.Reaches(1, 1) {
		t.Errorf("Last: %v", l)
	}
	wantDrop(t, c, p, 1, 0)
	want(t, c, p)
	if l := c.Last(); !slices.Equal(l, []int{0, 1}) || c.Reaches(1, 1) {
		t.Errorf("Last: %v", l)
	}
}

// An arc that another way makes up for changes no row when it goes; Last tells of the last call that told OK.
func TestLast(t *testing.T) {
	c, p := made(t, 5, [2]int{0, 1}, [2]int{1, 2}, [2]int{0, 3}, [2]int{3, 2}, [2]int{2, 4})
	if l := c.Last(); !slices.Equal(l, []int{0, 1, 2, 3}) {
		t.Errorf("Last: %v", l)
	}
	for _, x := range []struct {
		add  bool
		u, v int
		last []int
	}{
		{true, 0, 4, nil}, {false, 1, 2, []int{1}}, {false, 0, 4, nil}, {false, 0, 4, nil}, {true, 4, 0, []int{0, 2, 3, 4}}, {false, 4, 0, []int{0, 2, 3, 4}},
		{false, 3, 2, []int{0, 3}}, {true, 3, 2, []int{0, 3}}, {true, 3, 2, nil}, {false, 3, 2, nil}, {true, 4, 4, []int{4}}, {true, 1, 1, []int{1}}, {false, 2, 4, []int{0, 2, 3}},
	} {
		if x.add {
			wantAdd(t, c, p, x.u, x.v)
		} else {
			wantDrop(t, c, p, x.u, x.v)
		}
		want(t, c, p)
		if l := c.Last(); !slices.Equal(l, x.last) {
			t.Errorf("Last of %v: %v", x, l)
		}
	}
}

// When a round breaks, it falls into what goes round yet, and what doesn't.
func TestRoundsBreak(t *testing.T) {
	eight := [][2]int{{3, 1}, {1, 3}, {1, 4}, {4, 5}, {5, 1}, {5, 0}, {0, 2}, {2, 0}, {2, 3}, {6, 4}, {0, 7}, {7, 7}, {6, 6}}
	for _, arc := range eight {
		c, p := made(t, 8, eight...)
		wantDrop(t, c, p, arc[0], arc[1])
		want(t, c, p)
		for _, other := range eight {
			if other != arc {
				wantDrop(t, c, p, other[0], other[1])
				wantRows(t, c, p)
				wantAdd(t, c, p, other[0], other[1])
				wantRows(t, c, p)
			}
		}
		wantAdd(t, c, p, arc[0], arc[1])
		want(t, c, p)
	}
}

// 24.3

func TestNil(t *testing.T) {
	var c *closure.Closure
	p := newPlain(0)
	want(t, c, p)
	for _, u := range append(sample.OddNodes(), 0, 1, 4095) {
		for _, v := range append(sample.OddNodes(), 0, 1, 4095) {
			wantAdd(t, c, p, u, v)
			wantDrop(t, c, p, u, v)
		}
	}
	want(t, c, p)
	wantNone(t, c, 0)
	wantNone(t, c, 1)
}

// All of 24.1 and 24.2

func TestOfAny(t *testing.T) {
	from := rand.New(rand.NewSource(241))
	told, turned := map[api.Errno]int{}, map[int]int{}
	for range 150 {
		nodes := from.Intn(8)
		c, p := made(t, nodes)
		adds := 2 + from.Intn(4)
		for range 150 {
			u, v := from.Intn(nodes+1), from.Intn(nodes+1)
			if from.Intn(30) == 0 {
				u = sample.OddNodes()[from.Intn(len(sample.OddNodes()))]
			}
			if from.Intn(8) < adds {
				told[wantAdd(t, c, p, u, v)]++
			} else {
				told[wantDrop(t, c, p, u, v)]++
			}
			wantRows(t, c, p)
			turned[len(c.Last())]++
		}
		want(t, c, p)
	}
	for _, why := range []api.Errno{api.OK, api.ErrRange, api.ErrNone} {
		if told[why] < 1000 {
			t.Errorf("the error %d is too rare: %v", why, told)
		}
	}
	for size := range 6 {
		if turned[size] < 100 {
			t.Errorf("so many rows made others are too rare: %v", turned)
		}
	}
}

// Nodes of several words, with as many arcs as make large components, and let them fall apart.
func TestOfMore(t *testing.T) {
	from := rand.New(rand.NewSource(242))
	fell := 0
	for _, nodes := range []int{63, 64, 65, 100, 130} {
		c, p := made(t, nodes)
		var arcs [][2]int
		for step := range 600 {
			if len(arcs) > 0 && from.Intn(3*nodes) < len(arcs) {
				i := from.Intn(len(arcs))
				wantDrop(t, c, p, arcs[i][0], arcs[i][1])
				arcs = slices.Delete(arcs, i, i+1)
				if len(p.last) > 20 {
					fell++
				}
			} else {
				arc := [2]int{from.Intn(nodes), from.Intn(nodes)}
				wantAdd(t, c, p, arc[0], arc[1])
				arcs = append(arcs, arc)
			}
			wantRows(t, c, p)
			if step%100 == 0 {
				want(t, c, p)
			}
		}
		for _, arc := range arcs {
			wantDrop(t, c, p, arc[0], arc[1])
			wantRows(t, c, p)
		}
	}
	if fell < 30 {
		t.Errorf("only %d arcs that went made more than 20 rows others", fell)
	}
}

// howMany tells in a word how many of some nodes there are.
func howMany(l, nodes int) string {
	switch {
	case l > nodes/2:
		return "most"
	case l > 0:
		return "some"
	}
	return "none"
}

// Many nodes ahead of few: an arc that goes takes these from some of those, or from none, or from all.
func TestManyAheadOfFew(t *testing.T) {
	const nodes, few = 230, 4
	from := rand.New(rand.NewSource(243))
	turned := map[string]int{}
	for range 3 {
		c, p := made(t, nodes)
		// Those from few on have arcs to lesser ones, but for some, and so few rounds; the first ones go round, or not.
		for node := few; node < nodes; node++ {
			for range 1 + from.Intn(2) {
				wantAdd(t, c, p, node, few-1+from.Intn(node-few+1))
			}
			if from.Intn(20) == 0 {
				wantAdd(t, c, p, from.Intn(node+1), node)
			}
		}
		wantRows(t, c, p)
		for range 400 {
			u, v := from.Intn(few), from.Intn(few)
			if from.Intn(20) == 0 {
				u = few + from.Intn(nodes-few)
			}
			switch {
			case p.Counts[[2]int{u, v}] > 0:
				wantDrop(t, c, p, u, v)
				turned[howMany(len(p.last), nodes)]++
			case from.Intn(3) == 0:
				wantAdd(t, c, p, u, v)
			default:
				continue
			}
			wantRows(t, c, p)
		}
	}
	if turned["most"] < 20 || turned["some"] < 20 || turned["none"] < 20 {
		t.Errorf("too few arcs that went: %v", turned)
	}
}

// 24.4

// In whatever order arcs come and go, those that are there decide.
func TestByWhateverWay(t *testing.T) {
	from := rand.New(rand.NewSource(244))
	for range 40 {
		nodes := 1 + from.Intn(30)
		var l, others [][2]int
		for range from.Intn(3 * nodes) {
			l = append(l, [2]int{from.Intn(nodes), from.Intn(nodes)})
			others = append(others, [2]int{from.Intn(nodes), from.Intn(nodes)})
		}
		c, p := made(t, nodes, l...)
		all := slices.Concat(l, others)
		from.Shuffle(len(all), func(i, k int) { all[i], all[k] = all[k], all[i] })
		other := closure.New(nodes)
		for _, arc := range all {
			other.Add(arc[0], arc[1])
		}
		for _, arc := range others {
			other.Drop(arc[0], arc[1])
		}
		p.last = other.Last()
		want(t, other, p)
		for node := range nodes {
			if a, b := c.Row(node), other.Row(node); !slices.Equal(a, b) {
				t.Fatalf("of %v: Row of %d: %v, and by another way %v", l, node, a, b)
			}
		}
	}
}

func TestAnArcOnceMoreChangesNoRow(t *testing.T) {
	from := rand.New(rand.NewSource(245))
	for range 40 {
		nodes := 1 + from.Intn(12)
		c, p := made(t, nodes)
		for range 2 * nodes {
			u, v := from.Intn(nodes), from.Intn(nodes)
			wantAdd(t, c, p, u, v)
			for _, do := range []func(u, v int) api.Errno{c.Add, c.Drop} {
				if why := do(u, v); why != api.OK || len(c.Last()) != 0 {
					t.Fatalf("once more, or less: %d, Last %v", why, c.Last())
				}
				p.last = nil
				wantRows(t, c, p)
			}
		}
	}
}

// Many

// A ring of all nodes, in whatever order its arcs come, and go.
func TestRingOfAllNodes(t *testing.T) {
	const nodes = api.MaxNodes
	from := rand.New(rand.NewSource(246))
	c := closure.New(nodes)
	around := from.Perm(nodes)
	for _, i := range from.Perm(nodes) {
		if why := c.Add(around[i], around[(i+1)%nodes]); why != api.OK {
			t.Fatalf("Add: %d", why)
		}
	}
	all := sample.UpTo(nodes)
	if !slices.Equal(c.Last(), all) {
		t.Fatalf("Last: %d ones", len(c.Last()))
	}
	for node := range nodes {
		if !slices.Equal(c.Row(node), all) {
			t.Fatalf("Row of %d: %d ones", node, len(c.Row(node)))
		}
	}
	// Without the arc to the first one it is a path, on which each reaches those behind it.
	if why := c.Drop(around[nodes-1], around[0]); why != api.OK || !slices.Equal(c.Last(), all) {
		t.Fatalf("Drop: %d, Last %d ones", why, len(c.Last()))
	}
	for i, node := range around {
		behind := slices.Clone(around[i+1:])
		slices.Sort(behind)
		if !slices.Equal(c.Row(node), behind) {
			t.Fatalf("Row of the number %d: %d ones", i, len(c.Row(node)))
		}
	}
	// Without one in the middle those ahead of it reach none behind it.
	ahead := slices.Clone(around[:2001])
	slices.Sort(ahead)
	if why := c.Drop(around[2000], around[2001]); why != api.OK || !slices.Equal(c.Last(), ahead) {
		t.Fatalf("Drop: %d, Last %d ones", why, len(c.Last()))
	}
	for i, node := range around {
		want := nodes - 1 - i
		if i <= 2000 {
			want = 2000 - i
		}
		if got := c.Row(node); len(got) != want {
			t.Fatalf("Row of the number %d: %d ones, want %d", i, len(got), want)
		}
	}
}

// A ring of all nodes with arcs across: while there is another way, nothing changes.
func TestManyWays(t *testing.T) {
	const nodes = api.MaxNodes
	from := rand.New(rand.NewSource(247))
	c := closure.New(nodes)
	for node := range nodes {
		c.Add(node, (node+1)%nodes)
		c.Add(node, (node+7)%nodes)
	}
	for _, node := range from.Perm(nodes)[:100] {
		if why := c.Drop(node, (node+1)%nodes); why != api.OK || len(c.Last()) != 0 {
			t.Fatalf("Drop: %d, Last %d ones", why, len(c.Last()))
		}
	}
	// Without both, a node reaches nobody; and nobody else is touched but by itself.
	c.Drop(9, 10)
	if why := c.Drop(9, 16); why != api.OK || !slices.Equal(c.Last(), []int{9}) {
		t.Fatalf("Drop: %d, Last %d ones", why, len(c.Last()))
	}
	if l := c.Row(9); len(l) != 0 {
		t.Fatalf("Row: %d ones", len(l))
	}
	if !c.Reaches(10, 9) || !c.Reaches(2, 9) || !c.Reaches(11, 11) {
		t.Errorf("who reached one that reaches nobody does so still")
	}
}

// Memory

func TestAnswersAreNewMemory(t *testing.T) {
	c, p := made(t, 4, [2]int{0, 1}, [2]int{1, 2}, [2]int{2, 3})
	for _, l := range [][]int{c.Row(0), c.Last()} {
		if len(l) == 0 {
			t.Fatal("there is nothing")
		}
		for i := range l {
			l[i] = 0
		}
		want(t, c, p)
	}
	row, last := c.Row(0), c.Last()
	wantAdd(t, c, p, 3, 0)
	if !slices.Equal(row, []int{1, 2, 3}) || !slices.Equal(last, []int{0, 1, 2}) {
		t.Errorf("what was told is another one by now: %v, %v", row, last)
	}
	// Closures are apart, and so are the rows of a component when it falls apart.
	other, q := made(t, 4, [2]int{0, 1}, [2]int{1, 0})
	want(t, c, p)
	want(t, other, q)
	for _, arc := range [][2]int{{1, 2}, {3, 0}} {
		wantDrop(t, c, p, arc[0], arc[1])
		want(t, c, p)
	}
	wantAdd(t, c, p, 2, 2)
	want(t, c, p)
}
