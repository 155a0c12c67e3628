package topo_test

import (
	"math"
	"math/rand"
	"slices"
	"testing"

	"tenter/api"
	"tenter/cycle"
	"tenter/sample"
	"tenter/topo"
)

// What the chapter says, once more, edge by edge, and by all orders there are.

// goesAlong holds the first places of both ends of each edge against one another.
func goesAlong(order []int, l []api.Edge) bool {
	for _, e := range l {
		from, to := slices.Index(order, e.From), slices.Index(order, e.To)
		if from >= 0 && to >= 0 && !(from < to) {
			return false
		}
	}
	return true
}

// once tells ids, rising, each once.
func once(ids []int) []int {
	ids = slices.Clone(ids)
	slices.Sort(ids)
	return slices.Compact(ids)
}

// eachOrder goes through all orders of ids that rise, the first one first, till look tells true.
func eachOrder(ids []int, look func(order []int) bool) bool {
	var goOn func(order, rest []int) bool
	goOn = func(order, rest []int) bool {
		if len(rest) == 0 {
			return look(order)
		}
		for i, id := range rest {
			if goOn(append(slices.Clone(order), id), slices.Delete(slices.Clone(rest), i, i+1)) {
				return true
			}
		}
		return false
	}
	return goOn(nil, ids)
}

func firstOrder(ids []int, l []api.Edge) ([]int, api.Errno) {
	var first []int
	is := eachOrder(once(ids), func(order []int) bool {
		first = order
		return goesAlong(order, l)
	})
	if !is {
		return nil, api.ErrCycle
	}
	return first, api.OK
}

// want holds what is told of few ids against the above, and tells it.
func want(t *testing.T, ids []int, l []api.Edge) ([]int, api.Errno) {
	t.Helper()
	wasIds, was := slices.Clone(ids), slices.Clone(l)
	got, why := topo.Order(ids, l)
	is, cause := firstOrder(ids, l)
	if !slices.Equal(got, is) || why != cause {
		t.Fatalf("Order of %v and %v: %v, %d, not %v, %d", ids, l, got, why, is, cause)
	}
	if along := topo.Along(ids, l); along != goesAlong(ids, l) {
		t.Fatalf("Along of %v and %v: %v", ids, l, along)
	}
	if !slices.Equal(ids, wasIds) || !slices.Equal(l, was) {
		t.Fatalf("%v and %v have become %v and %v", wasIds, was, ids, l)
	}
	return got, why
}

// 29.1

func TestOrder(t *testing.T) {
	for _, x := range []struct {
		ids   []int
		edges string
		order []int // none: ErrCycle
	}{
		// The example of the chapter.
		{[]int{3, 1, 2}, "3 ww5 1", []int{2, 3, 1}}, {[]int{3, 1, 2}, "3 ww5 1 ww5 3", nil},
		{[]int{1}, "", []int{1}}, {[]int{2, 1}, "", []int{1, 2}}, {[]int{2, 1}, "1 rw1 2", []int{1, 2}}, {[]int{1, 2}, "2 rw1 1", []int{2, 1}},
		// The least one that may come comes, not the one that lets the most others come.
		{[]int{1, 2, 3, 4}, "4 ww5 1", []int{2, 3, 4, 1}}, {[]int{1, 2, 3, 4}, "4 ww5 1; 3 ww5 2", []int{3, 2, 4, 1}}, {[]int{1, 2, 3, 4}, "2 ww5 1; 4 ww5 1", []int{2, 3, 4, 1}}, {[]int{1, 2, 3, 4, 5}, "5 ww5 1 ww5 3; 4 ww5 2", []int{4, 2, 5, 1, 3}},
		{[]int{5, 4, 3, 2, 1}, "5 ww5 4 ww5 3 ww5 2 ww5 1", []int{5, 4, 3, 2, 1}}, {[]int{1, 10, 2, 9}, "9 ww1 2", []int{1, 9, 2, 10}},
		// Each id once.
		{[]int{2, 2, 1, 2, 1}, "", []int{1, 2}}, {[]int{1, 2, 1, 2}, "2 ww5 1; 2 wr5 1", []int{2, 1}}, {[]int{3, 3, 3}, "", []int{3}},
		// An edge as often as may be, of whatever kind and key.
		{[]int{1, 2, 3}, "2 ww5 1; 2 ww5 1; 2 rw7 1; 3 x-9 2", []int{3, 2, 1}}, {[]int{1, 2}, "1 ww5 2; 2 x0 1", nil},
		// Edges from, or to, what is none of the ids say nothing, even where they are a way.
		{[]int{1, 2}, "2 ww5 9 ww5 1", []int{1, 2}}, {[]int{1, 2}, "1 ww5 9 ww5 2; 2 ww5 1", []int{2, 1}}, {[]int{1, 2}, "9 ww5 1; 2 ww5 9", []int{1, 2}}, {[]int{1, 2}, "9 ww5 9; 8 ww5 7 ww5 8", []int{1, 2}}, {[]int{1, 2}, "0 ww5 1 ww5 0", []int{1, 2}},
		// To itself.
		{[]int{1, 2}, "1 ww5 1", nil}, {[]int{1, 2}, "2 x0 2", nil}, {[]int{1, 1}, "1 rw5 1", nil}, {[]int{1}, "2 ww5 2", []int{1}},
		// Round, by some or all, and whoever stands ahead or behind.
		{[]int{1, 2, 3}, "1 ww5 2 wr5 3 rw5 1", nil}, {[]int{1, 2, 3, 4}, "1 ww5 2; 3 ww5 4 ww5 3", nil}, {[]int{1, 2, 3}, "1 ww5 2 ww5 3 ww5 2", nil}, {[]int{1, 2, 3}, "1 ww5 2 ww5 1; 2 ww5 3", nil},
		// Any numbers.
		{[]int{0, -1, 1}, "", []int{-1, 0, 1}}, {[]int{0, -1, 1}, "0 ww5 -1; 1 ww5 0", []int{1, 0, -1}}, {[]int{-2, -3}, "-2 ww5 -3", []int{-2, -3}},
		{[]int{math.MaxInt, 0, math.MinInt}, "9223372036854775807 ww1 0", []int{math.MinInt, math.MaxInt, 0}}, {[]int{1, 1<<32 + 1}, "1 ww1 1", nil}, {[]int{1 << 32, 0, 1<<32 + 1}, "1 ww1 0", []int{0, 1 << 32, 1<<32 + 1}},
	} {
		got, why := want(t, x.ids, sample.Edges(x.edges))
		if !slices.Equal(got, x.order) || (why == api.OK) != (len(x.order) > 0) {
			t.Errorf("of %v and %s: %v, %d, not %v", x.ids, x.edges, got, why, x.order)
		}
	}
}

func TestOfNothing(t *testing.T) {
	for _, ids := range [][]int{nil, {}} {
		for _, edges := range []string{"", "1 ww5 2", "1 ww5 1", "1 ww5 2 ww5 1", "0 x0 0"} {
			if got, why := want(t, ids, sample.Edges(edges)); len(got) != 0 || why != api.OK {
				t.Errorf("of nothing, and %s: %v, %d", edges, got, why)
			}
		}
	}
	if got, why := topo.Order([]int{2, 1}, nil); !slices.Equal(got, []int{1, 2}) || why != api.OK {
		t.Errorf("without edges: %v, %d", got, why)
	}
	if !topo.Along([]int{2, 1}, nil) || !topo.Along(nil, nil) {
		t.Error("an order does not go along no edges")
	}
}

func TestAlong(t *testing.T) {
	for _, x := range []struct {
		order []int
		edges string
		along bool
	}{
		{[]int{2, 3, 1}, "3 ww5 1", true}, {[]int{1, 2, 3}, "3 ww5 1", false}, {[]int{1, 2, 3}, "1 ww5 2 rw5 3; 1 wr5 3", true}, {[]int{1, 2, 3}, "1 ww5 2; 3 rw5 2", false}, {[]int{1, 2, 3}, "1 ww5 2; 2 x0 1", false},
		{nil, "1 ww5 2 ww5 1", true}, {nil, "1 ww5 1", true}, {[]int{1}, "1 ww5 2 ww5 1", true}, {[]int{2, 1}, "1 ww5 9 ww5 2", true}, {[]int{1}, "2 ww5 2", true},
		{[]int{1}, "1 ww5 1", false}, {[]int{2, 1}, "1 x0 1", false}, {[]int{1, 1}, "1 ww5 1", false}, {[]int{1, 2, 1}, "1 ww5 1", false}, {[]int{0}, "0 ww0 0", false},
		// The first place of each id counts.
		{[]int{1, 2, 1}, "1 ww5 2", true}, {[]int{1, 2, 1}, "2 ww5 1", false}, {[]int{1, 1, 2, 2}, "1 ww5 2", true}, {[]int{2, 1, 2}, "2 ww5 1", true}, {[]int{2, 1, 2}, "1 ww5 2", false}, {[]int{3, 1, 3, 2, 3}, "1 ww5 2; 3 ww5 1; 3 ww5 2", true}, {[]int{3, 1, 3, 2, 3}, "1 ww5 3", false},
		{[]int{math.MaxInt, math.MinInt}, "9223372036854775807 ww1 -9223372036854775808", true}, {[]int{math.MaxInt, math.MinInt}, "-9223372036854775808 ww1 9223372036854775807", false}, {[]int{-1, -2, 0}, "-2 ww1 -1", false}, {[]int{1<<32 + 1, 2}, "2 ww1 1", true},
	} {
		if got := topo.Along(x.order, sample.Edges(x.edges)); got != x.along || got != goesAlong(x.order, sample.Edges(x.edges)) {
			t.Errorf("Along of %v and %s: %v", x.order, x.edges, got)
		}
	}
}

// drawn goes through ids, as often as may be, and edges of these and two others: any ones, or those that go along some order, or these and one more.
func drawn(seed int64, count int, look func(ids []int, l []api.Edge, r *rand.Rand)) {
	r := rand.New(rand.NewSource(seed))
	for range count {
		all := sample.UpTo(9)
		if r.Intn(3) == 0 {
			all = sample.OddNumbers()
		}
		r.Shuffle(len(all), func(i, k int) { all[i], all[k] = all[k], all[i] })
		n := r.Intn(7)
		l := sample.DrawEdges(r.Intn, all[:n+2], r.Intn(3*n+2))
		if way := r.Intn(3); way > 0 {
			l = slices.DeleteFunc(l, func(e api.Edge) bool { return !goesAlong(all, []api.Edge{e}) })
			l = append(l, sample.DrawEdges(r.Intn, all[:n+2], way-1)...)
		}
		ids := slices.Clone(all[:n])
		for range min(n, r.Intn(4)) {
			ids = append(ids, all[r.Intn(n)])
		}
		r.Shuffle(len(ids), func(i, k int) { ids[i], ids[k] = ids[k], ids[i] })
		look(ids, l, r)
	}
}

func TestOfAny(t *testing.T) {
	met, turned := map[api.Errno]int{}, 0
	drawn(291, 6000, func(ids []int, l []api.Edge, r *rand.Rand) {
		got, why := want(t, ids, l)
		met[why]++
		if !slices.IsSorted(got) {
			turned++
		}
	})
	if met[api.OK] < 1000 || met[api.ErrCycle] < 1000 || turned < 500 {
		t.Errorf("some are too rare: %v, %d", met, turned)
	}
}

func TestAlongAny(t *testing.T) {
	met := map[bool]int{}
	drawn(292, 6000, func(ids []int, l []api.Edge, r *rand.Rand) {
		along := goesAlong(ids, l)
		met[along]++
		if topo.Along(ids, l) != along {
			t.Fatalf("Along of %v and %v: %v", ids, l, !along)
		}
	})
	if met[true] < 1000 || met[false] < 1000 {
		t.Errorf("some are too rare: %v", met)
	}
}

// In whatever order ids and edges stand, and however often, the same is told.
func TestInWhateverOrder(t *testing.T) {
	drawn(293, 500, func(ids []int, l []api.Edge, r *rand.Rand) {
		got, why := topo.Order(ids, l)
		other, edges := append(slices.Clone(ids), ids...), append(slices.Clone(l), l...)
		r.Shuffle(len(other), func(i, k int) { other[i], other[k] = other[k], other[i] })
		r.Shuffle(len(edges), func(i, k int) { edges[i], edges[k] = edges[k], edges[i] })
		if same, cause := topo.Order(other, edges); !slices.Equal(got, same) || why != cause {
			t.Fatalf("of %v and %v: %v, but in another order %v", ids, l, got, same)
		}
	})
}

// 29.2

func TestAllOrRound(t *testing.T) {
	met := map[api.Errno]int{}
	drawn(294, 3000, func(ids []int, l []api.Edge, r *rand.Rand) {
		var among []api.Edge
		for _, e := range l {
			if slices.Contains(ids, e.From) && slices.Contains(ids, e.To) {
				among = append(among, api.Edge{From: e.From, To: e.To, Kind: api.WW})
			}
		}
		_, none := cycle.Shortest(among, 14, 0)
		got, why := topo.Order(ids, l)
		met[why]++
		if (why == api.OK) != (none == api.ErrNone) || why != api.OK && (why != api.ErrCycle || len(got) != 0) {
			t.Fatalf("of %v and %v: %v, %d", ids, l, got, why)
		}
		if sorted := slices.Sorted(slices.Values(got)); why == api.OK && (!slices.Equal(sorted, once(ids)) || !topo.Along(got, l)) {
			t.Fatalf("of %v and %v: %v", ids, l, got)
		}
	})
	if met[api.OK] < 500 || met[api.ErrCycle] < 500 {
		t.Errorf("some are too rare: %v", met)
	}
}

// 29.3

func TestFirst(t *testing.T) {
	others := 0
	drawn(295, 1500, func(ids []int, l []api.Edge, r *rand.Rand) {
		got, why := topo.Order(ids, l)
		if why != api.OK {
			return
		}
		for range 30 {
			order := once(ids)
			r.Shuffle(len(order), func(i, k int) { order[i], order[k] = order[k], order[i] })
			if !topo.Along(order, l) || slices.Equal(order, got) {
				continue
			}
			others++
			if slices.Compare(order, got) < 0 {
				t.Fatalf("of %v and %v: %v, but %v is ahead of it", ids, l, got, order)
			}
		}
	})
	if others < 1000 {
		t.Errorf("just %d other orders go along", others)
	}
}

// Many

const many = 300000

// falling tells so many ids, the greatest one first.
func falling() []int {
	ids := sample.UpTo(many)
	slices.Reverse(ids)
	return ids
}

// rightWay ends a test, if an order is not the one that is told of edges, in whatever order they stand.
func rightWay(t *testing.T, name string, order []int, l []api.Edge) {
	t.Helper()
	r := rand.New(rand.NewSource(296))
	ids := slices.Clone(order)
	r.Shuffle(len(ids), func(i, k int) { ids[i], ids[k] = ids[k], ids[i] })
	r.Shuffle(len(l), func(i, k int) { l[i], l[k] = l[k], l[i] })
	if got, why := topo.Order(ids, l); !slices.Equal(got, order) || why != api.OK {
		t.Errorf("%s: %d ids, %d", name, len(got), why)
	}
	if !topo.Along(order, l) {
		t.Errorf("%s: the order does not go along", name)
	}
}

func TestManyIds(t *testing.T) {
	rightWay(t, "without edges", sample.UpTo(many), nil)
	chain := sample.Ring(falling(), 1)
	rightWay(t, "in a row", falling(), chain[:many-1])
	if got, why := topo.Order(falling(), sample.Ring(falling(), 1)); len(got) != 0 || why != api.ErrCycle {
		t.Errorf("in a ring: %d ids, %d", len(got), why)
	}
	var star []api.Edge
	for id := range many - 1 {
		star = append(star, api.Edge{From: many - 1, To: id, Kind: api.WW, Key: 1})
	}
	rightWay(t, "behind one", append([]int{many - 1}, sample.UpTo(many-1)...), star)
	for i, e := range star {
		star[i].From, star[i].To = e.To+1, 0
	}
	rightWay(t, "ahead of one", append(sample.UpTo(many)[1:], 0), star)
}

// Each two of them are held against one another by an edge.
func TestManyEdges(t *testing.T) {
	const n = 1000
	var l []api.Edge
	for a := range n {
		for b := range a {
			l = append(l, api.Edge{From: -b, To: -a, Kind: api.RW, Key: a})
		}
	}
	var order []int
	for id := range n {
		order = append(order, -id)
	}
	rightWay(t, "each two", order, l)
	back := api.Edge{From: -n + 1, To: 0, Kind: api.WW, Key: 1}
	if got, why := topo.Order(order, append(l, back)); len(got) != 0 || why != api.ErrCycle {
		t.Errorf("with one back: %v, %d", got, why)
	}
	if topo.Along(order, append(l, back)) {
		t.Error("with one back an order goes along")
	}
}

// Memory

func TestAnswersAreNewMemory(t *testing.T) {
	ids := []int{1, 2, 3}
	for range 2 {
		got, _ := topo.Order(ids, sample.Edges("1 ww5 2"))
		if !slices.Equal(got, []int{1, 2, 3}) {
			t.Fatalf("%v is told", got)
		}
		for i := range got {
			got[i] = 7
		}
		if !slices.Equal(ids, []int{1, 2, 3}) {
			t.Fatalf("ids have become %v", ids)
		}
	}
	room := []int{9, 2, 5, 3, 1}
	topo.Order(room[:3], nil)
	if !slices.Equal(room, []int{9, 2, 5, 3, 1}) {
		t.Errorf("ids have become %v", room)
	}
}
