package depgraph_test

import (
	"math"
	"math/rand"
	"slices"
	"testing"

	"tenter/api"
	"tenter/delta"
	"tenter/depgraph"
	"tenter/dsg"
	"tenter/history"
	"tenter/offend"
	"tenter/sample"
)

// plain is what the chapter says, once more: a history, and the one ahead of the last Do that told OK.
type plain struct{ was, now api.History }

func (p *plain) do(d api.Delta) api.Errno {
	h, why := delta.Apply(p.now, d)
	if why == api.OK {
		p.was, p.now = p.now, h
	}
	return why
}

// onlyBy tells the edges of a that b has not, whatever their counts.
func onlyBy(a, b api.History) []api.Edge {
	others := dsg.Plain(dsg.Edges(b))
	return slices.DeleteFunc(dsg.Plain(dsg.Edges(a)), func(e api.Edge) bool { return slices.Contains(others, e) })
}

// noPhens are neither G1a nor G1b.
func noPhens() []int {
	return []int{0, api.G0, api.G1c, api.G2, api.PhenCount, -1, -2, -3, math.MinInt, math.MaxInt, 1<<32 + 2, 1<<32 + 3}
}

// someIds are those that tests use, and others around those that may be.
func someIds() []int {
	return []int{math.MinInt, -1, 0, 1, 2, 3, 4, 5, 6, 7, 1048574, 1048575, 1048576, 1<<32 + 1, math.MaxInt}
}

// short tells a history's text, or the beginning of it.
func short(h api.History) string {
	text := sample.Text(h)
	return text[:min(len(text), 500)]
}

// wantHistory looks by all calls at a graph that is meant to have this history.
func wantHistory(t *testing.T, g *depgraph.Graph, h api.History) {
	t.Helper()
	if got := g.History(); !history.Same(got, h) {
		t.Fatalf("History: %s, want %s", short(got), short(h))
	}
	l := dsg.Edges(h)
	if got := g.Edges(); !slices.Equal(got, l) {
		t.Fatalf("of %s: Edges: %v, want %v", short(h), got, l)
	}
	for _, x := range l {
		if got := g.Count(x.Edge); got != x.Count {
			t.Fatalf("of %s: Count of %v: %d", short(h), x, got)
		}
	}
	for _, id := range someIds() {
		wantOf(t, g, h, l, id)
	}
	for _, phen := range append(noPhens(), api.G1a, api.G1b) {
		if got := g.Bads(phen); !slices.Equal(got, offend.Of(h, phen)) {
			t.Fatalf("of %s: Bads %d: %v, want %v", short(h), phen, got, offend.Of(h, phen))
		}
	}
}

// wantOf looks at what a graph, of which these are meant to be the edges, tells of one id.
func wantOf(t *testing.T, g *depgraph.Graph, h api.History, l []api.Heavy, id int) {
	t.Helper()
	out := slices.DeleteFunc(slices.Clone(l), func(x api.Heavy) bool { return x.Edge.From != id })
	if got := g.Out(id); !slices.Equal(got, out) {
		t.Fatalf("of %s: Out of %d: %v, want %v", short(h), id, got, out)
	}
	for _, to := range someIds() {
		kinds := 0
		for _, x := range out {
			if x.Edge.To == to {
				kinds |= 1 << x.Edge.Kind
			}
		}
		if got := g.Kinds(id, to); got != kinds {
			t.Fatalf("of %s: Kinds from %d to %d: %d, want %d", short(h), id, to, got, kinds)
		}
	}
}

// wantNone looks at the counts of what is no edge.
func wantNone(t *testing.T, g *depgraph.Graph, h api.History) {
	t.Helper()
	is := map[api.Edge]bool{}
	for _, x := range dsg.Edges(h) {
		is[x.Edge] = true
	}
	for _, from := range someIds() {
		for _, to := range someIds() {
			for _, kind := range []int{-1, 0, api.WW, api.WR, api.RW, 4, 1<<32 + 1} {
				for _, key := range []int{-1, 0, 1, 2, 3, 5, 6, 1048575, 1048576, math.MaxInt} {
					e := api.Edge{From: from, To: to, Kind: kind, Key: key}
					if n := g.Count(e); !is[e] && n != 0 {
						t.Fatalf("of %s: Count of %v: %d", short(h), e, n)
					}
				}
			}
		}
	}
}

// both is a graph, and what it is meant to be.
type both struct {
	t *testing.T
	g *depgraph.Graph
	p *plain
}

func newBoth(t *testing.T) both { return both{t, depgraph.New(), &plain{}} }

func (b both) look() {
	b.t.Helper()
	wantHistory(b.t, b.g, b.p.now)
	if came, went := b.g.Came(), b.g.Went(); !slices.Equal(came, onlyBy(b.p.now, b.p.was)) || !slices.Equal(went, onlyBy(b.p.was, b.p.now)) {
		b.t.Fatalf("from %s to %s: Came %v, Went %v", short(b.p.was), short(b.p.now), came, went)
	}
}

// do does it with both, and looks whether all is left alone that is handed in.
func (b both) do(d api.Delta) api.Errno {
	b.t.Helper()
	was := sample.CopyDelta(d)
	got, want := b.g.Do(d), b.p.do(d)
	if got != want || !delta.Same(d, was) {
		b.t.Fatalf("of %s: Do of %.300s: %d, want %d", short(b.p.now), sample.DeltaText(d), got, want)
	}
	return got
}

// to makes h the history.
func (b both) to(h api.History) {
	b.t.Helper()
	d, why := delta.Of(b.p.now, h)
	if why != api.OK || b.do(d) != api.OK {
		b.t.Fatalf("%s can't come to be: %d", short(h), why)
	}
}

func edge(from, to, kind, key int) api.Edge {
	return api.Edge{From: from, To: to, Kind: kind, Key: key}
}

func wantChange(t *testing.T, g *depgraph.Graph, came, went []api.Edge) {
	t.Helper()
	if gotCame, gotWent := g.Came(), g.Went(); !slices.Equal(gotCame, came) || !slices.Equal(gotWent, went) {
		t.Fatalf("of %s: Came %v, Went %v; want %v, %v", short(g.History()), gotCame, gotWent, came, went)
	}
}

// The example of the chapter.
func TestExample(t *testing.T) {
	g := depgraph.New()
	first := g.Do(sample.Delta("+1 c w5; +5: 1"))
	wantChange(t, g, nil, nil)
	second := g.Do(sample.Delta("+2 c r5@1.1"))
	wantChange(t, g, []api.Edge{edge(1, 2, api.WR, 5)}, nil)
	if first != api.OK || second != api.OK {
		t.Errorf("%d, %d", first, second)
	}
}

// 20.1

func TestNewHasNothing(t *testing.T) {
	b := newBoth(t)
	if b.g == nil {
		t.Fatal("it is nil")
	}
	b.look()
	wantNone(t, b.g, api.History{})
	wantChange(t, b.g, nil, nil)
	// Graphs are apart, one from the other.
	other := newBoth(t)
	other.to(sample.History("1 a w5 w5; 2 c w6 r5@1.1; 3 c r6@2.1; 6: 2"))
	b.look()
	other.look()
}

func TestDo(t *testing.T) {
	b := newBoth(t)
	for _, text := range []string{
		"", "+1 c w5; +5: 1", "+2 c w5 r5@1.1; -5: 1; +5: 1 2", "-5: 1 2; +5: 2 1", "-1 c w5; +1 c w5; -5: 2 1; +5: 2 1", "-1 c w5; +1 c w5 w6; +6: 1", "+3 c r5@2.1 r5@2.1 r6@0 r6@1.1",
		"-2 c w5 r5@1.1; +2 a w5; -5: 2 1; +5: 1", "-3 c r5@2.1 r5@2.1 r6@0 r6@1.1; +3 c r6@1.1 r5@2.1", "-2 a w5; +2 a w5 w5", "-2 a w5 w5; +2 c w5 w5; -5: 1; +5: 1 2", "-3 c r6@1.1 r5@2.1",
		"-2 c w5 w5; -5: 1 2; +5: 1", "-1 c w5 w6; -5: 1; -6: 1; +3 c w5; +4 a r5@3.1; +5: 3", "-3 c w5; -4 a r5@3.1; -5: 3",
	} {
		if why := b.do(sample.Delta(text)); why != api.OK {
			t.Fatalf("of %s: Do of %s: %d", sample.Text(b.p.now), text, why)
		}
		b.look()
		wantNone(t, b.g, b.p.now)
	}
}

// A Do that has an error leaves all as it was, Came and Went too.
func TestDoTellsItsErrors(t *testing.T) {
	b := newBoth(t)
	b.to(sample.History("1 c w5; 2 c w5 r5@1.1; 3 a w6 w6; 4 c r6@3.1; 5: 1 2"))
	b.to(sample.History("1 c w5; 2 c w5; 3 a w6 w6; 4 c r6@3.1 r5@2.1; 5: 1 2"))
	for _, l := range []struct {
		text string
		want api.Errno
	}{
		// A list whose numbers do not rise, also where nothing else fits.
		{"+6 c; +6 c", api.ErrForm}, {"+7 c; +6 c", api.ErrForm}, {"-2 c w5; -1 c w5", api.ErrForm}, {"-9 c; -9 c", api.ErrForm}, {"-7: 1; -6: 1", api.ErrForm}, {"+7: 1; +7: 1", api.ErrForm},
		// What is not there, or not so, or there already; also where it would not be right.
		{"-5 c", api.ErrState}, {"-1 a w5", api.ErrState}, {"-1 c w6", api.ErrState}, {"+1 c w5", api.ErrState}, {"+1 a r9@9.1", api.ErrState}, {"-5: 2 1", api.ErrState}, {"-6: 1", api.ErrState},
		{"+5: 1 2", api.ErrState}, {"-1 c w5; -9 c", api.ErrState},
		// What would not be right.
		{"-1 c w5", api.ErrOrder}, {"+6 c w6", api.ErrOrder}, {"-3 a w6 w6", api.ErrOrder}, {"-3 a w6 w6; +3 a w5", api.ErrOrder}, {"+0 c", api.ErrOrder}, {"+1048576 c", api.ErrOrder}, {"-5: 1 2", api.ErrOrder},
		{"+6: 3", api.ErrOrder}, {"-5: 1 2; +5: 1 1", api.ErrOrder}, {"+6 c r5@1.2", api.ErrOrder}, {"+6 c r5@6.1", api.ErrOrder},
	} {
		if got := b.do(sample.Delta(l.text)); got != l.want {
			t.Fatalf("Do of %s: %d, want %d", l.text, got, l.want)
		}
		b.look()
		wantChange(t, b.g, []api.Edge{edge(2, 4, api.WR, 5)}, []api.Edge{edge(1, 2, api.WR, 5)})
	}
	for _, d := range []api.Delta{
		{Now: []api.Tx{{Id: math.MinInt}, {Id: math.MaxInt}}, New: []api.Order{{Key: math.MinInt}, {Key: math.MaxInt}}},
		{Now: []api.Tx{{Id: 6, Done: true, Ops: []api.Op{{}}}}, New: []api.Order{{Txs: []int{6}}}},
		{Now: []api.Tx{{Id: 6, Ops: []api.Op{{Read: true, Key: math.MaxInt, Tx: math.MinInt, Nth: -1}}}}},
		{Now: []api.Tx{{Id: 6, Ops: make([]api.Op, api.MaxOps+1)}}},
	} {
		if why := b.do(d); why != api.ErrOrder {
			t.Errorf("of numbers that may not be: %d", why)
		}
		b.look()
	}
	wantNone(t, b.g, b.p.now)
}

// 20.2

func TestKindsAndOut(t *testing.T) {
	g := depgraph.New()
	b := both{t, g, &plain{}}
	b.to(sample.History("1 c w1 w2 r3@0; 2 c w1 r2@1.1 r2@1.1 w3; 3 c r1@1.1 r2@0; 1: 1 2; 2: 1; 3: 2"))
	b.look()
	for _, l := range [][3]int{{1, 2, 14}, {2, 1, 0}, {1, 3, 4}, {3, 1, 8}, {3, 2, 8}, {2, 3, 0}, {1, 1, 0}} {
		if got := g.Kinds(l[0], l[1]); got != l[2] {
			t.Errorf("Kinds from %d to %d: %d, want %d", l[0], l[1], got, l[2])
		}
	}
	want := []api.Heavy{{Edge: edge(1, 2, api.WW, 1), Count: 1}, {Edge: edge(1, 3, api.WR, 1), Count: 1}, {Edge: edge(1, 2, api.WR, 2), Count: 2}, {Edge: edge(1, 2, api.RW, 3), Count: 1}}
	if got := g.Out(1); !slices.Equal(got, want) {
		t.Errorf("Out: %v", got)
	}
}

func TestBads(t *testing.T) {
	b := newBoth(t)
	bad := func(tx, place, of, nth int) api.Bad {
		return api.Bad{Tx: tx, Place: place, Of: api.Version{Tx: of, Key: 5, Nth: nth}}
	}
	for _, l := range []struct {
		text             string
		aborted, between []api.Bad
	}{
		// A change that has nothing to do with the key must leave places alone.
		{"1 a w5; 2 c r6@0 r5@1.1 w6; 6: 2", []api.Bad{bad(2, 1, 1, 1)}, nil},
		{"1 a w5 w5; 2 c r6@0 r5@1.1 w6; 6: 2", []api.Bad{bad(2, 1, 1, 1)}, []api.Bad{bad(2, 1, 1, 1)}},
		{"1 a w5 w5; 2 c r6@0 r5@1.1 w6; 3 c w6; 6: 3 2", []api.Bad{bad(2, 1, 1, 1)}, []api.Bad{bad(2, 1, 1, 1)}},
		{"1 a w5 w5; 2 c w6 r6@0 r5@1.1 r5@1.2 w6; 3 c w6 r5@1.1; 6: 3 2", []api.Bad{bad(2, 2, 1, 1), bad(2, 3, 1, 2), bad(3, 1, 1, 1)}, []api.Bad{bad(2, 2, 1, 1), bad(3, 1, 1, 1)}},
		{"1 c w5 w5; 2 c w6 r6@0 r5@1.1 r5@1.2 w6; 3 c w6 r5@1.1; 5: 1; 6: 3 2", nil, []api.Bad{bad(2, 2, 1, 1), bad(3, 1, 1, 1)}},
		{"1 c w5 w5; 2 a w6 r6@0 r5@1.1 r5@1.2 w6; 3 c w6 r5@1.1; 5: 1; 6: 3", nil, []api.Bad{bad(3, 1, 1, 1)}},
		{"1 c w5 w5; 3 c w6; 5: 1; 6: 3", nil, nil},
	} {
		b.to(sample.History(l.text))
		b.look()
		if aborted, between := b.g.Bads(api.G1a), b.g.Bads(api.G1b); !slices.Equal(aborted, l.aborted) || !slices.Equal(between, l.between) {
			t.Errorf("of %s: %v, %v", l.text, aborted, between)
		}
	}
}

// 20.3

func TestCameAndWent(t *testing.T) {
	b := newBoth(t)
	for _, l := range []struct {
		text       string
		came, went []api.Edge
	}{
		{"1 c w1 w2; 2 c w1 w2 r1@1.1; 1: 1 2; 2: 2 1", []api.Edge{edge(1, 2, api.WW, 1), edge(1, 2, api.WR, 1), edge(2, 1, api.WW, 2)}, nil},
		// Nothing comes of the same, nor of counts that are more, or less, and not 0.
		{"1 c w1 w2; 2 c w1 w2 r1@1.1; 1: 1 2; 2: 2 1", nil, nil},
		{"1 c w1 w2; 2 c w1 w2 r1@1.1 r1@1.1 r1@1.1; 1: 1 2; 2: 2 1", nil, nil},
		{"1 c w1 w2; 2 c w1 w2 r1@1.1 r1@1.1; 1: 1 2; 2: 2 1", nil, nil},
		{"1 c w1 w2; 2 c w1 w2; 1: 1 2; 2: 2 1", nil, []api.Edge{edge(1, 2, api.WR, 1)}},
		{"1 c w1 w2; 2 c w1 w2 r1@1.1 r1@1.1; 1: 1 2; 2: 2 1", []api.Edge{edge(1, 2, api.WR, 1)}, nil},
		{"1 c w1 w2; 2 c w1 w2 r1@1.1 r1@1.1; 1: 2 1; 2: 1 2", []api.Edge{edge(1, 2, api.WW, 2), edge(2, 1, api.WW, 1)}, []api.Edge{edge(1, 2, api.WW, 1), edge(2, 1, api.WW, 2)}},
		{"1 c w1 w2; 2 c w1 w2 r1@1.1; 3 c w1 r2@1.1; 1: 3 2 1; 2: 1 2",
			[]api.Edge{edge(1, 3, api.WR, 2), edge(3, 2, api.WW, 1), edge(3, 2, api.RW, 2)}, nil},
		{"", nil, []api.Edge{edge(1, 2, api.WW, 2), edge(1, 2, api.WR, 1), edge(1, 3, api.WR, 2), edge(2, 1, api.WW, 1), edge(3, 2, api.WW, 1), edge(3, 2, api.RW, 2)}},
	} {
		b.to(sample.History(l.text))
		wantChange(t, b.g, l.came, l.went)
		b.look()
	}
}

// A Do that has nothing tells OK, and so nothing came, nor went.
func TestCameOfNothing(t *testing.T) {
	for _, text := range []string{"", "-1 c w5; +1 c w5", "-5: 1 2; +5: 1 2", "+9 c; +10 a w5"} {
		b := newBoth(t)
		b.to(sample.History("1 c w5; 2 c w5; 5: 1 2"))
		wantChange(t, b.g, []api.Edge{edge(1, 2, api.WW, 5)}, nil)
		if why := b.do(sample.Delta(text)); why != api.OK {
			t.Fatalf("Do of %s: %d", text, why)
		}
		wantChange(t, b.g, nil, nil)
		b.look()
	}
}

// 20.4

func TestNil(t *testing.T) {
	var g *depgraph.Graph
	for _, text := range []string{
		"", "+1 c w5; +5: 1", "+1 a w5 w5; +2 c r5@1.1", "+2 c; +1 c", "+6: 1; +5: 1", "-1 c", "-5: 1", "-2 c; -1 c", "+1 c w5", "+5: 1", "+1 c r5@2.1", "+0 c", "+1048576 a", "-1 c; +1 c", "+1 c w5; +5: 1 1",
	} {
		d := sample.Delta(text)
		want := depgraph.New().Do(d)
		if want == api.OK {
			want = api.ErrState
		}
		if why := g.Do(d); why != want {
			t.Errorf("Do of %s: %d, want %d", text, why, want)
		}
	}
	wantHistory(t, g, api.History{})
	wantNone(t, g, api.History{})
	wantChange(t, g, nil, nil)
}

// All of 20.1 to 20.3

func TestOfAny(t *testing.T) {
	from := rand.New(rand.NewSource(202))
	told, met := map[api.Errno]int{}, map[string]int{}
	for range 40 {
		b := newBoth(t)
		for range 60 {
			next := sample.DrawEdit(b.p.now, from.Intn)
			if from.Intn(8) == 0 {
				next = sample.DrawHistory(from.Intn)
			}
			d, _ := delta.Of(b.p.now, next)
			if from.Intn(4) == 0 {
				d = sample.DrawOther(d, from.Intn)
			}
			told[b.do(d)]++
			b.look()
			met["came"] += len(b.g.Came())
			met["went"] += len(b.g.Went())
			met["bad"] += len(b.g.Bads(api.G1a)) + len(b.g.Bads(api.G1b))
		}
		wantNone(t, b.g, b.p.now)
	}
	for _, why := range []api.Errno{api.OK, api.ErrForm, api.ErrState, api.ErrOrder} {
		if told[why] < 30 {
			t.Errorf("the error %d is too rare: %v", why, told)
		}
	}
	for _, what := range []string{"came", "went", "bad"} {
		if met[what] < 1000 {
			t.Errorf("%s is too rare: %v", what, met)
		}
	}
}

// 20.5

func TestByWhateverWay(t *testing.T) {
	from := rand.New(rand.NewSource(203))
	for range 150 {
		last := sample.DrawHistory(from.Intn)
		var graphs []both
		for way := range 3 {
			b := newBoth(t)
			for range way * 4 {
				b.to(sample.DrawEdit(b.p.now, from.Intn))
			}
			if way == 2 {
				b.to(sample.DrawHistory(from.Intn))
			}
			b.to(last)
			// The same once more: so that what came, and what went, is the same, too.
			b.to(last)
			b.look()
			graphs = append(graphs, b)
		}
		for _, b := range graphs {
			wantHistory(t, b.g, last)
			wantChange(t, b.g, nil, nil)
		}
	}
}

func TestThereAndBack(t *testing.T) {
	from := rand.New(rand.NewSource(204))
	for range 200 {
		b := newBoth(t)
		b.to(sample.DrawHistory(from.Intn))
		start := b.p.now
		d, _ := delta.Of(start, sample.DrawHistory(from.Intn))
		b.do(d)
		came, went := b.g.Came(), b.g.Went()
		b.do(delta.Invert(d))
		wantHistory(t, b.g, start)
		wantChange(t, b.g, went, came)
	}
}

// Many

func TestOfTheGreatestNumbers(t *testing.T) {
	const id, key = 1048575, 1048575
	writer := api.Tx{Id: id - 1, Done: true, Ops: []api.Op{{Key: key}}}
	reader := api.Tx{Id: id, Done: true, Ops: slices.Repeat([]api.Op{{Read: true, Key: key, Tx: id - 1, Nth: 1}}, api.MaxOps)}
	b := newBoth(t)
	b.to(api.History{Txs: []api.Tx{writer, reader}, Orders: []api.Order{{Key: key, Txs: []int{id - 1}}}})
	b.look()
	if n := b.g.Count(edge(id-1, id, api.WR, key)); n != 4095 {
		t.Errorf("Count: %d", n)
	}
	aborted := api.Tx{Id: id - 1, Ops: writer.Ops}
	b.to(api.History{Txs: []api.Tx{aborted, reader}})
	b.look()
	if n := len(b.g.Bads(api.G1a)); n != 4095 {
		t.Errorf("%d are bad", n)
	}
	b.to(api.History{})
	b.look()
}

// chain has as many transactions as may be; each one writes a key of its own, and the next one reads it.
func chain() api.History {
	var h api.History
	for id := 1; id <= api.MaxTxs; id++ {
		t := api.Tx{Id: id, Done: true, Ops: []api.Op{{Key: id}, {Read: true, Key: id + 1}}}
		if id > 1 {
			t.Ops = append(t.Ops, api.Op{Read: true, Key: id - 1, Tx: id - 1, Nth: 1})
		}
		h.Txs = append(h.Txs, t)
		h.Orders = append(h.Orders, api.Order{Key: id, Txs: []int{id}})
	}
	return h
}

func TestOfMany(t *testing.T) {
	b := newBoth(t)
	b.to(chain())
	b.look()
	// Some changes among so many.
	for id := 100; id < 4000; id += 400 {
		one := api.Tx{Id: id, Ops: []api.Op{{Key: id}, {Key: id}}}
		next, why := history.Amend(b.p.now, one)
		if why != api.OK {
			t.Fatalf("Amend: %d", why)
		}
		b.to(next)
		wantChange(t, b.g, nil, []api.Edge{edge(id-1, id, api.WR, id-1), edge(id-1, id, api.RW, id), edge(id, id+1, api.WR, id), edge(id, id+1, api.RW, id+1)})
		b.look()
	}
	b.to(api.History{})
	b.look()
}

// Memory

func TestAnswersAreNewMemory(t *testing.T) {
	b := newBoth(t)
	b.to(sample.History("1 c w5; 2 c w5; 3 c w6 w6; 4 a w5 w5; 5: 1 2; 6: 3"))
	d := sample.Delta("+5 c r5@2.1 r6@3.1 r5@4.1; +6 c w7; -5: 1 2; +5: 2 1; +7: 6")
	if b.do(d) != api.OK {
		t.Fatal("it can't be done")
	}
	sample.SpoilDelta(d)
	b.look()
	sample.Spoil(b.g.History())
	for _, l := range [][]api.Heavy{b.g.Edges(), b.g.Out(2)} {
		if len(l) == 0 {
			t.Fatal("there is nothing")
		}
		for i := range l {
			l[i] = api.Heavy{}
		}
	}
	for _, l := range [][]api.Edge{b.g.Came(), b.g.Went()} {
		if len(l) == 0 {
			t.Fatal("nothing came, or went")
		}
		for i := range l {
			l[i] = api.Edge{}
		}
	}
	for _, l := range [][]api.Bad{b.g.Bads(api.G1a), b.g.Bads(api.G1b)} {
		if len(l) == 0 {
			t.Fatal("nothing is bad")
		}
		for i := range l {
			l[i] = api.Bad{}
		}
	}
	b.look()
	// What was told stays as it was, whatever is done then.
	h, came, bads := b.g.History(), b.g.Came(), b.g.Bads(api.G1a)
	wasH, wasCame, wasBads := sample.Copy(h), slices.Clone(came), slices.Clone(bads)
	b.to(sample.History("1 c w5; 2 c w5; 5: 1 2"))
	if !history.Same(h, wasH) || !slices.Equal(came, wasCame) || !slices.Equal(bads, wasBads) {
		t.Errorf("%s, %v, %v", sample.Text(h), came, bads)
	}
}
