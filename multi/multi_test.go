package multi_test

import (
	"math"
	"math/big"
	"math/rand"
	"slices"
	"testing"

	"tenter/api"
	"tenter/multi"
	"tenter/pack"
)

// What the chapter says, once more, by going through all edges.

// plain has the counts of edges.
type plain map[api.Edge]int

func isFrom(least, n, most int) bool { return n >= least && n <= most }

func hasNumber(e api.Edge) bool {
	return isFrom(1, e.From, 1048575) && isFrom(1, e.To, 1048575) && isFrom(1, e.Kind, 3) && isFrom(1, e.Key, 1048575)
}

func (p plain) add(e api.Edge, n int) api.Errno {
	if !hasNumber(e) {
		return api.ErrRange
	}
	sum := big.NewInt(int64(p[e]))
	sum.Add(sum, big.NewInt(int64(n)))
	switch {
	case sum.Sign() < 0:
		return api.ErrNone
	case sum.Cmp(big.NewInt(2147483647)) > 0:
		return api.ErrFull
	}
	p[e] = int(sum.Int64())
	if p[e] == 0 {
		delete(p, e)
	}
	return api.OK
}

// listed tells those edges that is holds of, in order.
func (p plain) listed(is func(e api.Edge) bool) []api.Heavy {
	var l []api.Heavy
	for e, n := range p {
		if is(e) {
			l = append(l, api.Heavy{Edge: e, Count: n})
		}
	}
	slices.SortFunc(l, func(a, b api.Heavy) int {
		if pack.Less(a.Edge, b.Edge) {
			return -1
		}
		return 1
	})
	return l
}

func (p plain) kinds(from, to int) int {
	mask := 0
	for _, kind := range []int{api.WW, api.WR, api.RW} {
		if len(p.listed(func(e api.Edge) bool { return e.From == from && e.To == to && e.Kind == kind })) > 0 {
			mask += 1 << kind
		}
	}
	return mask
}

func edge(from, to, kind, key int) api.Edge {
	return api.Edge{From: from, To: to, Kind: kind, Key: key}
}

func heavy(from, to, kind, key, count int) api.Heavy {
	return api.Heavy{Edge: edge(from, to, kind, key), Count: count}
}

// oddNumbers are around those that may be, and at the ends of all.
func oddNumbers() []int {
	return []int{math.MinInt, math.MinInt32, -1048575, -1, 0, 1048576, 1 << 21, math.MaxInt32, 1 << 32, 1<<32 + 1, 1<<62 + 1, math.MaxInt}
}

// oddEdges have no number: one part alone, or all, may not be.
func oddEdges() []api.Edge {
	l := []api.Edge{{}, edge(1, 2, 4, 5), edge(1, 2, 5, 5), edge(1, 2, -1, 5)}
	for _, n := range oddNumbers() {
		l = append(l, edge(n, 2, api.WW, 5), edge(1, n, api.WW, 5), edge(1, 2, n, 5), edge(1, 2, api.WW, n), edge(n, n, n, n))
	}
	return l
}

// want looks by all calls at a bag that is meant to have just these edges.
func want(t *testing.T, m *multi.Multi, p plain) {
	t.Helper()
	all := p.listed(func(api.Edge) bool { return true })
	if got := m.Edges(); !slices.Equal(got, all) {
		t.Fatalf("Edges: %v, want %v", got, all)
	}
	if got := m.Len(); got != len(all) {
		t.Fatalf("Len of %v: %d", all, got)
	}
	ids := append(oddNumbers(), 1, 2, 3, 4, 1048574, 1048575)
	for _, x := range all {
		if got := m.Count(x.Edge); got != x.Count {
			t.Fatalf("Count of %v: %d", x, got)
		}
	}
	for _, id := range ids {
		if got, l := m.Out(id), p.listed(func(e api.Edge) bool { return e.From == id }); !slices.Equal(got, l) {
			t.Fatalf("of %v: Out of %d: %v", all, id, got)
		}
		if got, l := m.In(id), p.listed(func(e api.Edge) bool { return e.To == id }); !slices.Equal(got, l) {
			t.Fatalf("of %v: In of %d: %v", all, id, got)
		}
		for _, to := range ids {
			if got := m.Kinds(id, to); got != p.kinds(id, to) {
				t.Fatalf("of %v: Kinds from %d to %d: %d", all, id, to, got)
			}
		}
	}
}

// wantNone looks at the counts of what is no edge of a bag.
func wantNone(t *testing.T, m *multi.Multi, p plain) {
	t.Helper()
	l := oddEdges()
	for from := 1; from <= 4; from++ {
		for to := 1; to <= 4; to++ {
			for kind := 1; kind <= 3; kind++ {
				l = append(l, edge(from, to, kind, 1), edge(from, to, kind, 2), edge(from, to, kind, 5), edge(from, to, kind, 1048575))
			}
		}
	}
	for _, e := range l {
		if _, is := p[e]; !is && m.Count(e) != 0 {
			t.Fatalf("Count of %v: %d", e, m.Count(e))
		}
	}
}

// wantAdd adds to both, and looks at the error.
func wantAdd(t *testing.T, m *multi.Multi, p plain, e api.Edge, n int) api.Errno {
	t.Helper()
	was := p[e]
	why := p.add(e, n)
	if got := m.Add(e, n); got != why {
		t.Fatalf("Add of %d to %d of %v: %d, want %d", n, was, e, got, why)
	}
	return why
}

// The example of the chapter.
func TestExample(t *testing.T) {
	m, e := multi.New(), edge(1, 2, api.WW, 5)
	first, second, third := m.Add(e, 1), m.Add(e, 1), m.Add(e, -3)
	if first != api.OK || second != api.OK || third != api.ErrNone || m.Count(e) != 2 {
		t.Errorf("%d, %d, %d, and the count is %d", first, second, third, m.Count(e))
	}
}

// 17.1

func TestNewHasNothing(t *testing.T) {
	m := multi.New()
	if m == nil {
		t.Fatal("it is nil")
	}
	want(t, m, plain{})
	wantNone(t, m, plain{})
}

func TestAdd(t *testing.T) {
	m, p := multi.New(), plain{}
	for _, x := range []api.Heavy{
		heavy(1, 2, api.WW, 5, 1), heavy(1, 2, api.WW, 5, 2), heavy(1, 2, api.WR, 5, 1), heavy(1, 2, api.WW, 1, 4), heavy(2, 1, api.WW, 5, 1), heavy(1, 2, api.WW, 5, -2),
		heavy(1, 2, api.WR, 5, -1), heavy(3, 3, api.RW, 5, 7), heavy(1, 2, api.WW, 5, -1), heavy(1, 2, api.WW, 5, 3), heavy(3, 3, api.RW, 5, -7), heavy(3, 3, api.RW, 5, 0),
		heavy(1048575, 1048575, api.RW, 1048575, 1), heavy(1, 1048575, api.WR, 1048575, 1), heavy(1048575, 1, api.WW, 1, 2),
	} {
		if why := wantAdd(t, m, p, x.Edge, x.Count); why != api.OK {
			t.Fatalf("Add of %v: %d", x, why)
		}
		want(t, m, p)
		wantNone(t, m, p)
	}
}

// amounts are around those that decide, beside a count.
func amounts(count int) []int {
	const most = 2147483647
	return []int{
		0, 1, -1, 2, -2, -count - 1, -count, -count + 1, most - count - 1, most - count, most - count + 1, most - 1, most, most + 1, -most + 1, -most, -most - 1,
		math.MaxInt, math.MinInt, math.MaxInt - count, math.MaxInt - count + 1, math.MinInt + count, 1 << 32, -1 << 32, 1<<32 - count, 1 << 62, -1 << 62,
	}
}

func TestAddAtTheEdges(t *testing.T) {
	told := map[api.Errno]int{}
	e := edge(1, 2, api.RW, 5)
	for _, count := range []int{0, 1, 2, 3, 1000, 2147483645, 2147483646, 2147483647} {
		for _, n := range amounts(count) {
			m, p := multi.New(), plain{}
			wantAdd(t, m, p, e, count)
			told[wantAdd(t, m, p, e, n)]++
			want(t, m, p)
		}
	}
	for _, why := range []api.Errno{api.OK, api.ErrNone, api.ErrFull} {
		if told[why] < 20 {
			t.Errorf("the error %d is too rare: %v", why, told)
		}
	}
}

func TestAddTellsItsErrors(t *testing.T) {
	m := multi.New()
	e := edge(1, 2, api.WR, 5)
	for _, l := range []struct {
		n    int
		want api.Errno
	}{
		{-1, api.ErrNone}, {math.MinInt, api.ErrNone}, {2147483648, api.ErrFull}, {math.MaxInt, api.ErrFull}, {0, api.OK}, {2147483647, api.OK},
		{1, api.ErrFull}, {-2147483648, api.ErrNone}, {0, api.OK}, {-2147483646, api.OK}, {-2, api.ErrNone}, {2147483647, api.ErrFull}, {-1, api.OK}, {-1, api.ErrNone},
	} {
		if why := m.Add(e, l.n); why != l.want {
			t.Fatalf("Add of %d: %d, want %d; the count is %d", l.n, why, l.want, m.Count(e))
		}
	}
	want(t, m, plain{})
}

// An edge without a number is told ahead of what n would tell.
func TestAddOfNoNumber(t *testing.T) {
	start := plain{edge(1, 2, api.WW, 5): 3}
	m := multi.Of([]api.Heavy{heavy(1, 2, api.WW, 5, 3)})
	for _, e := range oddEdges() {
		for _, n := range []int{0, 1, -1, math.MinInt, math.MaxInt} {
			if why := m.Add(e, n); why != api.ErrRange {
				t.Errorf("Add of %d of %v: %d", n, e, why)
			}
		}
	}
	want(t, m, start)
	wantNone(t, m, start)
}

func TestOf(t *testing.T) {
	e, f := edge(1, 2, api.WW, 5), edge(2, 1, api.RW, 5)
	for _, l := range []struct {
		of   []api.Heavy
		want plain
	}{
		{nil, plain{}},
		{[]api.Heavy{}, plain{}},
		{[]api.Heavy{{Edge: e, Count: 1}}, plain{e: 1}},
		{[]api.Heavy{{Edge: f, Count: 2}, {Edge: e, Count: 1}, {Edge: f, Count: 3}}, plain{e: 1, f: 5}},
		{[]api.Heavy{{Edge: e}}, plain{}},
		{[]api.Heavy{{Edge: e, Count: 2}, {Edge: e, Count: -2}}, plain{}},
		{[]api.Heavy{{Edge: e, Count: -2}, {Edge: e, Count: 2}}, plain{e: 2}},
		{[]api.Heavy{{Edge: e, Count: 2}, {Edge: e, Count: -3}, {Edge: e, Count: 1}}, plain{e: 3}},
		{[]api.Heavy{{Edge: e, Count: 2147483647}, {Edge: e, Count: 1}, {Edge: f, Count: 1}}, plain{e: 2147483647, f: 1}},
		{[]api.Heavy{{Edge: e, Count: 2147483648}, {Edge: e, Count: math.MaxInt}, {Edge: f, Count: math.MinInt}}, plain{}},
		{[]api.Heavy{{Count: 1}, {Edge: edge(0, 2, api.WW, 5), Count: 1}, {Edge: e, Count: 1}, {Edge: edge(1, 2, 4, 5), Count: 9}}, plain{e: 1}},
	} {
		was := slices.Clone(l.of)
		m := multi.Of(l.of)
		want(t, m, l.want)
		if !slices.Equal(l.of, was) {
			t.Fatalf("%v became %v", was, l.of)
		}
		// What comes of the list afterwards is nothing to the bag, and the other way round.
		for i := range l.of {
			l.of[i] = heavy(3, 3, api.WW, 3, 3)
		}
		want(t, m, l.want)
	}
}

// 17.2

func TestKinds(t *testing.T) {
	m := multi.Of([]api.Heavy{
		heavy(1, 2, api.WW, 5, 1), heavy(1, 2, api.RW, 6, 1), heavy(1, 2, api.RW, 7, 2), heavy(2, 1, api.WR, 5, 1), heavy(1, 3, api.WW, 5, 1), heavy(1, 3, api.WR, 5, 1), heavy(1, 3, api.RW, 5, 1),
		heavy(3, 3, api.WR, 1, 1), heavy(4, 3, api.RW, 1, 1),
	})
	for _, l := range [][3]int{
		{1, 2, 1<<api.WW | 1<<api.RW}, {2, 1, 1 << api.WR}, {1, 3, 14}, {3, 1, 0}, {3, 3, 4}, {4, 3, 8}, {3, 4, 0}, {1, 1, 0}, {1, 4, 0}, {2, 3, 0}, {0, 0, 0}, {0, 2, 0}, {1, 0, 0}, {-1, 2, 0}, {1 + 1<<32, 2, 0},
	} {
		if got := m.Kinds(l[0], l[1]); got != l[2] {
			t.Errorf("Kinds from %d to %d: %d, want %d", l[0], l[1], got, l[2])
		}
	}
	if why := m.Add(edge(1, 2, api.RW, 6), -1); why != api.OK || m.Kinds(1, 2) != 10 {
		t.Errorf("%d, %d", why, m.Kinds(1, 2))
	}
	if why := m.Add(edge(1, 2, api.RW, 7), -2); why != api.OK || m.Kinds(1, 2) != 2 {
		t.Errorf("%d, %d", why, m.Kinds(1, 2))
	}
}

// Edges stand by From, Kind, Key and To, in all lists.
func TestInOrder(t *testing.T) {
	l := []api.Heavy{
		heavy(1, 9, api.WW, 1, 1), heavy(1, 2, api.WW, 2, 2), heavy(1, 3, api.WW, 2, 1), heavy(1, 9, api.WW, 1048575, 1), heavy(1, 1, api.WR, 1, 1), heavy(1, 2, api.WR, 1, 1), heavy(1, 1, api.RW, 1, 3),
		heavy(2, 9, api.WW, 1, 1), heavy(2, 1, api.RW, 1, 1), heavy(1048575, 9, api.WW, 1, 1), heavy(1048575, 1048575, api.RW, 1048575, 2147483647),
	}
	back := slices.Clone(l)
	slices.Reverse(back)
	for _, given := range [][]api.Heavy{l, back} {
		m := multi.Of(given)
		if got := m.Edges(); !slices.Equal(got, l) {
			t.Errorf("Edges: %v", got)
		}
		if got := m.Out(1); !slices.Equal(got, l[:7]) {
			t.Errorf("Out: %v", got)
		}
		if got := m.In(9); !slices.Equal(got, []api.Heavy{l[0], l[3], l[7], l[9]}) {
			t.Errorf("In: %v", got)
		}
	}
}

// 17.3

func TestNil(t *testing.T) {
	var m *multi.Multi
	want(t, m, plain{})
	wantNone(t, m, plain{})
	for _, e := range append(oddEdges(), edge(1, 2, api.WW, 5), edge(1048575, 1048575, api.RW, 1048575)) {
		for _, n := range amounts(0) {
			why := multi.New().Add(e, n)
			if why == api.OK {
				why = api.ErrState
			}
			if got := m.Add(e, n); got != why {
				t.Errorf("Add of %d of %v: %d, want %d", n, e, got, why)
			}
		}
	}
}

// All of 17.1 and 17.2

// drawEdge draws an edge; few ones, so that they meet.
func drawEdge(from *rand.Rand) api.Edge {
	e := edge(1+from.Intn(3), 1+from.Intn(3), 1+from.Intn(3), 1+from.Intn(2))
	if from.Intn(30) == 0 {
		e = oddEdges()[from.Intn(len(oddEdges()))]
	}
	return e
}

func TestOfAny(t *testing.T) {
	from := rand.New(rand.NewSource(171))
	told := map[api.Errno]int{}
	for range 60 {
		m, p := multi.New(), plain{}
		for range 150 {
			e := drawEdge(from)
			n := from.Intn(5) - 2
			if from.Intn(6) == 0 {
				n = amounts(p[e])[from.Intn(len(amounts(p[e])))]
			}
			told[wantAdd(t, m, p, e, n)]++
			if m.Len() != len(p) || m.Count(e) != p[e] {
				t.Fatalf("Len %d, Count of %v %d; want %d, %d", m.Len(), e, m.Count(e), len(p), p[e])
			}
			if from.Intn(10) == 0 {
				want(t, m, p)
			}
		}
		want(t, m, p)
		wantNone(t, m, p)
	}
	for _, why := range []api.Errno{api.OK, api.ErrRange, api.ErrNone, api.ErrFull} {
		if told[why] < 100 {
			t.Errorf("the error %d is too rare: %v", why, told)
		}
	}
}

// 17.4

func drawHeavies(from *rand.Rand, n int) []api.Heavy {
	var l []api.Heavy
	for range n {
		e := edge(1+from.Intn(4), 1+from.Intn(4), 1+from.Intn(3), 1+from.Intn(2))
		l = append(l, api.Heavy{Edge: e, Count: 1 + from.Intn(9)})
	}
	return l
}

func TestThereAndBack(t *testing.T) {
	from := rand.New(rand.NewSource(172))
	for range 100 {
		m, p := multi.New(), plain{}
		for _, x := range drawHeavies(from, from.Intn(20)) {
			wantAdd(t, m, p, x.Edge, x.Count)
		}
		l := drawHeavies(from, 30)
		for _, x := range l {
			m.Add(x.Edge, x.Count)
		}
		from.Shuffle(len(l), func(i, k int) { l[i], l[k] = l[k], l[i] })
		for _, x := range l {
			if why := m.Add(x.Edge, -x.Count); why != api.OK {
				t.Fatalf("Add of %v, back: %d", x, why)
			}
		}
		want(t, m, p)
	}
}

func TestInWhateverOrder(t *testing.T) {
	from := rand.New(rand.NewSource(173))
	for range 100 {
		l := drawHeavies(from, 40)
		p := plain{}
		for _, x := range l {
			p.add(x.Edge, x.Count)
		}
		for range 3 {
			from.Shuffle(len(l), func(i, k int) { l[i], l[k] = l[k], l[i] })
			want(t, multi.Of(l), p)
		}
	}
}

// Many

// wheel has edges from 1 to others, as many to 2, and those from one to the next, all of several keys.
func wheel(ids, keys int) []api.Heavy {
	var l []api.Heavy
	for id := 3; id < 3+ids; id++ {
		for key := 1; key <= keys; key++ {
			l = append(l, heavy(1, id, api.WR, key, 1), heavy(id, 2, api.RW, key, key), heavy(id, id+1, api.WW, key, 1))
		}
	}
	return l
}

func TestOfMany(t *testing.T) {
	const ids, keys = 4000, 25
	l := wheel(ids, keys)
	m := multi.Of(l)
	if m.Len() != len(l) || len(m.Edges()) != len(l) || len(m.Out(1)) != ids*keys || len(m.In(2)) != ids*keys {
		t.Fatalf("%d, %d, %d, %d of %d", m.Len(), len(m.Edges()), len(m.Out(1)), len(m.In(2)), len(l))
	}
	// Who asks of one id, among so many, is told at once.
	for id := 3; id < 3+ids; id++ {
		if len(m.Out(id)) != 2*keys || m.Kinds(id, 2) != 1<<api.RW || m.Kinds(1, id) != 1<<api.WR || m.Kinds(id, id+1) != 1<<api.WW || m.Kinds(id+1, id) != 0 {
			t.Fatalf("of %d: %d, %d, %d, %d", id, len(m.Out(id)), m.Kinds(id, 2), m.Kinds(1, id), m.Kinds(id, id+1))
		}
	}
	for _, x := range l {
		if why := m.Add(x.Edge, -x.Count); why != api.OK {
			t.Fatalf("Add of %v, back: %d", x, why)
		}
	}
	want(t, m, plain{})
}

// Memory

func TestAnswersAreNewMemory(t *testing.T) {
	p := plain{edge(1, 2, api.WW, 5): 1, edge(2, 1, api.RW, 5): 4, edge(1, 1, api.WR, 5): 2}
	m := multi.Of(p.listed(func(api.Edge) bool { return true }))
	for _, l := range [][]api.Heavy{m.Edges(), m.Out(1), m.In(1)} {
		if len(l) == 0 {
			t.Fatal("there is nothing")
		}
		for i := range l {
			l[i] = heavy(9, 9, 9, 9, 9)
		}
		want(t, m, p)
	}
	// Bags are apart, one from the other.
	other := multi.Of(m.Edges())
	other.Add(edge(1, 2, api.WW, 5), 1)
	other.Add(edge(1, 1, api.WR, 5), -2)
	want(t, m, p)
}
