package parts_test

import (
	"math/rand"
	"slices"
	"testing"

	"tenter/api"
	"tenter/parts"
	"tenter/sample"
)

// labels tells the components of nodes whose arcs are edges.
func labels(n int, l []api.Edge) []int {
	next := make([][]int, n)
	for _, e := range l {
		next[e.From] = append(next[e.From], e.To)
	}
	return parts.Labels(n, func(node int) []int { return next[node] })
}

// plainLabels tells them by who reaches whom.
func plainLabels(n int, l []api.Edge) []int {
	ahead := sample.Ahead(l)
	var all []int
	for node := range n {
		all = append(all, slices.IndexFunc(sample.UpTo(n), func(other int) bool {
			return other == node || ahead[node][other] && ahead[other][node]
		}))
	}
	return all
}

func TestLabels(t *testing.T) {
	for _, x := range []struct {
		edges string
		want  []int
	}{
		{"", nil}, {"", []int{0, 1, 2}}, {"0 ww5 0", []int{0}}, {"0 ww5 1 ww5 0 ww5 2", []int{0, 0, 2}}, {"2 ww5 1 ww5 0", []int{0, 1, 2}}, {"2 ww5 1 ww5 0 ww5 2", []int{0, 0, 0}},
		{"0 ww5 3 ww5 1 ww5 3; 2 ww5 0", []int{0, 1, 2, 1}}, {"0 ww5 1 ww5 2 ww5 3 ww5 1; 3 ww5 4 ww5 5 ww5 4", []int{0, 1, 1, 1, 4, 4}},
		// What was found ahead is no way back.
		{"0 ww5 1; 2 ww5 1; 2 ww5 3 ww5 2; 3 ww5 0", []int{0, 1, 2, 2}},
		// Two ways back, to different nodes.
		{"0 ww5 1 ww5 2 ww5 3 ww5 1; 2 ww5 4 ww5 0", []int{0, 0, 0, 0, 0}},
	} {
		if got := labels(len(x.want), sample.Edges(x.edges)); !slices.Equal(got, x.want) {
			t.Errorf("of %s: %v, not %v", x.edges, got, x.want)
		}
	}
}

func TestLabelsOfAny(t *testing.T) {
	r := rand.New(rand.NewSource(301))
	sizes := map[int]int{}
	for range 5000 {
		n := 1 + r.Intn(12)
		l := sample.DrawEdges(r.Intn, sample.UpTo(n), r.Intn(2*n+1))
		got, want := labels(n, l), plainLabels(n, l)
		if !slices.Equal(got, want) {
			t.Fatalf("of %v: %v, not %v", l, got, want)
		}
		met := map[int]bool{}
		for _, label := range want {
			met[label] = true
		}
		sizes[len(met)]++
	}
	for n := 1; n <= 10; n++ {
		if sizes[n] < 50 {
			t.Errorf("%d components are too rare: %v", n, sizes)
		}
	}
}

// A way may be as long as there are nodes.
func TestLabelsOfMany(t *testing.T) {
	const n = 2000000
	ids := sample.UpTo(n)
	slices.Reverse(ids)
	ring := sample.Ring(ids, 1)
	if got := labels(n, ring[:n-1]); !slices.Equal(got, sample.UpTo(n)) {
		t.Error("in a row: some are of one component")
	}
	if got := labels(n, ring); slices.Max(got) != 0 {
		t.Error("in a ring: not all are of one component")
	}
	ring[n/2-1].To, ring[n-1].To = n-1, n/2-1
	got := labels(n, ring)
	if slices.Max(got[:n/2]) != 0 || slices.Min(got[n/2:]) != n/2 || slices.Max(got[n/2:]) != n/2 {
		t.Error("in two rings: there are other components")
	}
}
