package sample_test

import (
	"maps"
	"math/rand"
	"slices"
	"testing"

	"tenter/api"
	"tenter/history"
	"tenter/sample"
)

func TestTextIsReadBack(t *testing.T) {
	for _, text := range []string{"", "1 a", "1 c w5 r5@0 r5@1.1; 2 a r5@1.1; 5: 1", "2 a; 1 a; 7:; 6: 1 2 1"} {
		if got := sample.Text(sample.History(text)); got != text {
			t.Errorf("%q is read as %q", text, got)
		}
	}
}

func TestWhatIsDrawnIsRight(t *testing.T) {
	from := rand.New(rand.NewSource(1))
	h, met := sample.History(""), map[string]bool{}
	for range 2000 {
		h = sample.DrawEdit(h, from.Intn)
		if !history.Right(h) {
			t.Fatalf("%s is not right", sample.Text(h))
		}
		met[sample.Text(h)] = true
	}
	if len(met) < 500 {
		t.Errorf("%d histories of 2000 alone are drawn", len(met))
	}
}

func TestHistoriesThatAreDrawnAreRight(t *testing.T) {
	from := rand.New(rand.NewSource(2))
	met := map[string]bool{}
	for range 2000 {
		h := sample.DrawHistory(from.Intn)
		if !history.Right(h) {
			t.Fatalf("%s is not right", sample.Text(h))
		}
		met[sample.Text(h)] = true
	}
	if len(met) < 1500 {
		t.Errorf("%d histories of 2000 alone are drawn", len(met))
	}
}

func TestDeltas(t *testing.T) {
	for text, want := range map[string]string{
		"": "-{} +{}", "-1 a; +1 c w5; -5:; +5: 1": "-{1 a; 5:} +{1 c w5; 5: 1}", "+2 a; +1 a; +6: 1 1; +5: 2": "-{} +{2 a; 1 a; 6: 1 1; 5: 2}",
	} {
		d := sample.Delta(text)
		c := sample.CopyDelta(d)
		if got := sample.DeltaText(d); got != want {
			t.Errorf("%q is read as %q", text, got)
		}
		sample.SpoilDelta(d)
		if got := sample.DeltaText(c); got != want || text != "" && sample.DeltaText(d) == want {
			t.Errorf("of %q: %q, %q", text, got, sample.DeltaText(d))
		}
	}
}

func TestCopyAndSpoil(t *testing.T) {
	const text = "1 c w5; 2 a r5@1.1; 5: 1"
	h := sample.History(text)
	c := sample.Copy(h)
	ids := h.Orders[0].Txs
	ops := h.Txs[0].Ops
	sample.Spoil(h)
	if sample.Text(c) != text || ids[0] == 1 || ops[0].Key == 5 || h.Txs[0].Id == 1 || h.Orders[0].Key == 5 {
		t.Errorf("%q; %v, %v, %q", sample.Text(c), ids, ops, sample.Text(h))
	}
}

func TestArcsThatAreDrawnAreRight(t *testing.T) {
	from := rand.New(rand.NewSource(3))
	for nodes := range 9 {
		l := sample.DrawArcs(from.Intn, nodes, 3*nodes)
		if g := sample.Digraph(nodes, l...); g.Nodes() != nodes || g.Len() != len(l) || len(l) < nodes {
			t.Errorf("of %d nodes: %d, %d arcs", g.Nodes(), nodes, g.Len())
		}
	}
}

func TestNet(t *testing.T) {
	n := sample.NewNet(4)
	for _, arc := range [][2]int{{0, 1}, {1, 2}, {2, 1}, {0, 1}, {3, 0}} {
		if why := n.Add(arc[0], arc[1]); why != api.OK {
			t.Errorf("Add of %v: %d", arc, why)
		}
	}
	rows := [][]int{{1, 2}, {1, 2}, {1, 2}, {0, 1, 2}}
	if got := n.Rows(); !slices.EqualFunc(got, rows, slices.Equal[[]int]) {
		t.Errorf("Rows: %v", got)
	}
	for i, why := range []api.Errno{n.Add(4, 0), n.Drop(0, -1), n.Drop(1, 0), n.Drop(0, 1), n.Drop(0, 1), n.Drop(0, 1)} {
		if want := []api.Errno{api.ErrRange, api.ErrRange, api.ErrNone, api.OK, api.OK, api.ErrNone}[i]; why != want {
			t.Errorf("error %d: %d, want %d", i, why, want)
		}
	}
}

func TestEdges(t *testing.T) {
	edge := func(from, kind, key, to int) api.Edge { return api.Edge{From: from, To: to, Kind: kind, Key: key} }
	for text, want := range map[string][]api.Edge{
		"": nil, "7": nil, "1 ww5 2": {edge(1, 1, 5, 2)}, "1 ww5 2 rw4 1; -3 wr-6 4;7 x0 0": {edge(1, 1, 5, 2), edge(2, 3, 4, 1), edge(-3, 2, -6, 4), edge(7, 0, 0, 0)},
	} {
		if got := sample.Edges(text); !slices.Equal(got, want) {
			t.Errorf("%q is read as %v", text, got)
		}
	}
}

func TestCompareEdges(t *testing.T) {
	l := sample.Edges("-1 rw9 9; 1 x9 9; 1 ww4 9; 1 ww5 -2; 1 ww5 2; 1 wr4 1; 2 ww1 1")
	for i, a := range l {
		for k, b := range l {
			if got := sample.CompareEdges(a, b); got != max(-1, min(1, i-k)) {
				t.Errorf("%v and %v: %d", a, b, got)
			}
		}
	}
}

func TestEdgesThatAreDrawn(t *testing.T) {
	from := rand.New(rand.NewSource(4))
	met := map[api.Edge]bool{}
	for range 1000 {
		e := sample.DrawEdge(from.Intn, []int{1, 2}, []int{3, 4}, []int{5, 6})
		met[e] = true
		if e.From|e.To > 3 || e.Kind != 3 && e.Kind != 4 || e.Key != 5 && e.Key != 6 {
			t.Fatalf("%v is drawn", e)
		}
	}
	if len(met) != 16 {
		t.Errorf("%d edges are drawn", len(met))
	}
}

func TestDrawEdges(t *testing.T) {
	from := rand.New(rand.NewSource(5))
	odd := 0
	for range 100 {
		l := sample.DrawEdges(from.Intn, []int{7, 8}, 9)
		for _, e := range l {
			if len(l) != 9 || e.From != 7 && e.From != 8 || e.To != 7 && e.To != 8 {
				t.Fatalf("%v is drawn", l)
			}
			if !sample.IsOf(e.Kind, 14) {
				odd++
			}
		}
	}
	if odd < 50 {
		t.Errorf("%d edges of odd kinds are drawn", odd)
	}
}

func TestRing(t *testing.T) {
	for text, ids := range map[string][]int{"": nil, "7 wr0 7": {7}, "3 wr0 1 wr1 -2 wr2 3": {3, 1, -2}} {
		if got := sample.Ring(ids, 2); !slices.Equal(got, sample.Edges(text)) {
			t.Errorf("of %v: %v", ids, got)
		}
	}
}

func TestAhead(t *testing.T) {
	got := sample.Ahead(sample.Edges("1 ww5 2 x5 3 rw5 2; 4 ww5 1; 5 ww5 5; 4 ww5 7"))
	want := map[int][]int{1: {2, 3}, 2: {2, 3}, 3: {2, 3}, 4: {1, 2, 3, 7}, 5: {5}}
	for id := range 9 {
		if l := slices.Sorted(maps.Keys(got[id])); !slices.Equal(l, want[id]) {
			t.Errorf("ahead of %d: %v, not %v", id, l, want[id])
		}
	}
}
