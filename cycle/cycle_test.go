package cycle_test

import (
	"math"
	"math/rand"
	"slices"
	"testing"

	"tenter/api"
	"tenter/cycle"
	"tenter/sample"
	"tenter/walk"
)

// What the chapter says, once more, by all walks of one edge, two edges, and so on.

// plain has the edges that are of a mask, in order, each once, and what is asked of their closed walks.
type plain struct {
	l    []api.Edge
	must int // 0: any edge will do
}

func newPlain(l []api.Edge, mask, must int) plain {
	l = slices.DeleteFunc(slices.Clone(l), func(e api.Edge) bool { return !sample.IsOf(e.Kind, mask) })
	slices.SortFunc(l, sample.CompareEdges)
	return plain{slices.Compact(l), must & 14}
}

// full tells whether there are too many ids, or keys.
func (p plain) full() bool {
	ids, keys := map[int]bool{}, map[int]bool{}
	for _, e := range p.l {
		ids[e.From], ids[e.To], keys[e.Key] = true, true, true
	}
	return len(ids) > 4096 || len(keys) > 1048575
}

func (p plain) counts(e api.Edge) bool { return p.must == 0 || sample.IsOf(e.Kind, p.must) }

// reached is where a walk began, where it ended, and whether it has an edge that counts.
type reached struct {
	first, last int
	counts      bool
}

// steps tells how few edges a closed walk has; 0, if none has so many at most.
func (p plain) steps(most int) int {
	at := map[reached]bool{}
	for _, e := range p.l {
		at[reached{e.From, e.From, false}] = true
	}
	for n := 1; n <= most; n++ {
		next := map[reached]bool{}
		for r := range at {
			for _, e := range p.l {
				if e.From == r.last {
					next[reached{r.first, e.To, r.counts || p.counts(e)}] = true
				}
			}
		}
		for r := range next {
			if r.first == r.last && r.counts {
				return n
			}
		}
		at = next
	}
	return 0
}

// goOn tells the first closed walk of so many edges more, of all that begin like l.
func (p plain) goOn(l []api.Edge, more int) []api.Edge {
	if more == 0 {
		if walk.Closed(l) && slices.ContainsFunc(l, p.counts) {
			return l
		}
		return nil
	}
	for _, e := range p.l {
		if len(l) > 0 && l[len(l)-1].To != e.From {
			continue
		}
		if found := p.goOn(append(slices.Clone(l), e), more-1); found != nil {
			return found
		}
	}
	return nil
}

func (p plain) shortest() ([]api.Edge, api.Errno) {
	if p.full() {
		return nil, api.ErrFull
	}
	steps := p.steps(2*len(p.l) + 2)
	if steps == 0 {
		return nil, api.ErrNone
	}
	return p.goOn(nil, steps), api.OK
}

// want holds what is told against the above, and tells it.
func want(t *testing.T, l []api.Edge, mask, must int) ([]api.Edge, api.Errno) {
	t.Helper()
	was := slices.Clone(l)
	got, why := cycle.Shortest(l, mask, must)
	is, cause := newPlain(l, mask, must).shortest()
	if !slices.Equal(got, is) || why != cause {
		t.Fatalf("of %v, %d, %d: %s, %d, not %s, %d", l, mask, must, walk.Text(got), why, walk.Text(is), cause)
	}
	if !slices.Equal(l, was) {
		t.Fatalf("%v has become %v", was, l)
	}
	return got, why
}

// upTo tells ids, from 1 on.
func upTo(n int) []int { return sample.UpTo(n + 1)[1:] }

// 27.1

func TestShortest(t *testing.T) {
	for _, x := range []struct {
		edges      string
		mask, must int
		walk       string
	}{
		{"1 ww5 2 rw5 1; 2 rw4 1", 14, 0, "1 ww5 2 rw4 1"}, {"1 ww5 2 rw5 1; 2 rw4 1", 6, 0, ""}, {"1 ww5 2 rw5 1; 2 rw4 1", 14, 8, "1 ww5 2 rw4 1"}, {"1 ww5 2 rw5 1; 2 rw4 1", 14, 4, ""},
		{"", 14, 0, ""}, {"1 ww5 1", 2, 0, "1 ww5 1"}, {"1 ww5 1", 12, 0, ""}, {"1 ww5 1", 0, 0, ""}, {"1 ww5 2", 14, 0, ""}, {"1 ww5 2; 1 ww5 3", 14, 0, ""},
		// The fewest edges weigh more than their order.
		{"1 ww5 2 ww5 3 ww5 1; 9 rw9 8 rw9 9", 14, 0, "8 rw9 9 rw9 8"}, {"1 ww5 2 ww5 1; 9 rw9 9", 14, 0, "9 rw9 9"}, {"1 ww5 2 ww5 1; 9 rw9 9", 14, 2, "1 ww5 2 ww5 1"},
		// From, then kind, then key, then To.
		{"3 ww1 4 ww1 3; 1 rw9 2 rw9 1", 14, 0, "1 rw9 2 rw9 1"}, {"1 wr1 2 ww9 1; 1 ww9 3 ww9 1", 14, 0, "1 ww9 3 ww9 1"}, {"1 ww2 2 ww1 1; 1 ww1 3 ww9 1", 14, 0, "1 ww1 3 ww9 1"}, {"1 ww1 3 ww1 1; 1 ww1 2 rw9 1", 14, 0, "1 ww1 2 rw9 1"},
		{"1 ww1 2 ww1 3 ww2 1; 1 ww1 2 rw1 4 ww1 1; 3 ww1 1", 14, 0, "1 ww1 2 ww1 3 ww1 1"}, {"1 rw1 1; 1 wr2 1; 1 wr1 1", 14, 0, "1 wr1 1"},
		// It begins at its least id, wherever that stands.
		{"5 ww1 9 ww1 7 ww1 2 ww1 5", 14, 0, "2 ww1 5 ww1 9 ww1 7 ww1 2"}, {"-1 ww0 4 ww-5 -7 ww3 -1", 14, 0, "-7 ww3 -1 ww0 4 ww-5 -7"},
		// An edge of must, wherever it stands, and the first of all that will do.
		{"1 ww5 2 ww5 1; 2 rw5 1", 14, 8, "1 ww5 2 rw5 1"}, {"1 ww5 2 ww5 1; 1 rw5 2", 14, 8, "1 rw5 2 ww5 1"}, {"1 ww5 2 ww5 1; 2 rw5 1; 1 rw5 2", 14, 8, "1 ww5 2 rw5 1"}, {"1 rw5 2 rw6 1", 14, 8, "1 rw5 2 rw6 1"},
		{"1 ww5 2 ww5 3 ww5 1; 2 rw9 3", 14, 8, "1 ww5 2 rw9 3 ww5 1"}, {"1 ww5 2 ww5 1; 2 rw5 3 ww5 4 ww5 2", 14, 8, "2 rw5 3 ww5 4 ww5 2"}, {"1 ww5 2 ww5 1; 2 ww5 3 rw5 4 rw4 1; 4 rw9 1", 14, 8, "1 ww5 2 ww5 3 rw5 4 rw4 1"},
		// An edge of must that does not come back is of no use.
		{"1 ww5 2 ww5 1; 2 rw5 3", 14, 8, ""}, {"1 ww5 2 ww5 1; 3 rw5 1", 14, 8, ""}, {"1 ww5 2 ww5 1; 2 rw5 3 ww5 4 ww5 3", 14, 8, ""}, {"1 ww5 1; 2 rw5 1", 14, 8, ""},
		// Must asks for one edge at least, not for all, nor for all of its kinds; what is not of the mask is no edge.
		{"1 ww5 2 wr5 1", 14, 6, "1 ww5 2 wr5 1"}, {"1 ww5 2 wr5 1", 14, 12, "1 ww5 2 wr5 1"}, {"1 ww5 2 rw5 1", 6, 8, ""}, {"1 ww5 2 wr5 1", 6, 8, ""}, {"1 ww5 2 wr5 1", 6, 10, "1 ww5 2 wr5 1"}, {"1 ww5 2 wr5 1", 6, 14, "1 ww5 2 wr5 1"}, {"1 ww5 1; 1 rw5 1", 2, 8, ""},
		// As often as may be.
		{"2 ww5 1; 1 ww5 2; 2 ww5 1; 1 ww5 2", 14, 0, "1 ww5 2 ww5 1"},
		// Edges of other kinds are none.
		{"1 x5 1; 2 x5 1 ww5 2", 14, 0, ""}, {"1 x5 1; 2 x5 1 ww5 2 ww7 1", 15, 1, "1 ww5 2 ww7 1"},
	} {
		got, why := want(t, sample.Edges(x.edges), x.mask, x.must)
		if walk.Text(got) != x.walk || (why == api.OK) != (x.walk != "") {
			t.Errorf("of %s, %d, %d: %s, %d, not %s", x.edges, x.mask, x.must, walk.Text(got), why, x.walk)
		}
	}
	if got, why := cycle.Shortest(nil, 14, 0); len(got) != 0 || why != api.ErrNone {
		t.Errorf("of nil: %v, %d", got, why)
	}
}

// Other bits of a mask, and of must, say nothing.
func TestMasks(t *testing.T) {
	l := sample.Edges("1 ww5 2 ww5 1; 2 wr4 3 wr4 2; 3 rw3 4 rw3 3; 1 wr7 4; 4 ww7 1; 2 x5 2; 3 ww2 2")
	for _, mask := range sample.Masks() {
		for _, must := range sample.Masks() {
			got, why := want(t, l, mask, must)
			if same, cause := cycle.Shortest(l, mask&14, must&14); !slices.Equal(got, same) || why != cause {
				t.Errorf("of %d and %d: %s, but %s without other bits", mask, must, walk.Text(got), walk.Text(same))
			}
		}
	}
}

// Kinds that are none of the three are left out, and so are their ids.
func TestOddKinds(t *testing.T) {
	for _, kind := range append(sample.OddNumbers(), 5, 31, 32, 33, 62, 67, -62, -63, -64, 1<<8+1, 1<<16+2) {
		for _, mask := range sample.Masks() {
			l := []api.Edge{{From: 1, To: 1, Kind: kind, Key: 5}, {From: 1, To: 2, Kind: kind, Key: 5}, {From: 2, To: 1, Kind: 1, Key: 5}}
			if got, why := want(t, l, mask, 0); why != api.ErrNone {
				t.Errorf("of kind %d and the mask %d: %v, %d", kind, mask, got, why)
			}
		}
	}
}

func TestAnyEdges(t *testing.T) {
	r := rand.New(rand.NewSource(271))
	lengths, none := map[int]int{}, 0
	for range 12000 {
		ids := upTo(1 + r.Intn(7))
		if r.Intn(3) == 0 {
			ids = sample.OddNumbers()[:1+r.Intn(7)]
		}
		l := sample.DrawEdges(r.Intn, ids, r.Intn(3*len(ids)+1))
		mask, must := 14, []int{0, 2, 4, 8, 6, 10, 12}[r.Intn(7)]
		if r.Intn(4) == 0 {
			mask, must = sample.Masks()[r.Intn(len(sample.Masks()))], sample.Masks()[r.Intn(len(sample.Masks()))]
		}
		// Without edges that come back at once, or in two steps, walks are longer.
		if short := r.Intn(3); short > 0 {
			l = slices.DeleteFunc(l, func(e api.Edge) bool { return e.From == e.To || short > 1 && e.To < e.From && r.Intn(2) == 0 })
		}
		got, why := want(t, l, mask, must)
		if why != api.OK {
			none++
		}
		lengths[len(got)]++
	}
	for n := 1; n <= 3; n++ {
		if lengths[n] < 100 || none < 1000 {
			t.Errorf("too few walks of %d edges, or none: %v, %d", n, lengths, none)
		}
	}
}

// Long walks, with an edge of must here or there.
func TestAnyRings(t *testing.T) {
	r := rand.New(rand.NewSource(272))
	lengths := map[int]int{}
	for range 3000 {
		n := 3 + r.Intn(6)
		ids := r.Perm(n)
		l := sample.Ring(ids, 1)
		for range r.Intn(6) {
			// From one that stands ahead, mostly to one that is not far behind it, so that the way round stays long.
			at := r.Intn(n)
			l = append(l, api.Edge{From: ids[at], To: ids[(at+1+r.Intn(2))%n], Kind: 1 + r.Intn(3), Key: r.Intn(n)})
		}
		must := []int{0, 4, 8, 12}[r.Intn(4)]
		got, _ := want(t, l, 14, must)
		lengths[len(got)]++
	}
	for n := 3; n <= 7; n++ {
		if lengths[n] < 50 {
			t.Errorf("too few walks of %d edges: %v", n, lengths)
		}
	}
}

// 27.1: ErrFull

func TestIdsAreFull(t *testing.T) {
	l := sample.Ring(upTo(4096), 1)
	if got, why := cycle.Shortest(l, 2, 0); !slices.Equal(got, l) || why != api.OK {
		t.Fatalf("of 4096 ids: %d edges, %d", len(got), why)
	}
	for _, more := range []string{"0 ww1 7", "7 ww1 4097", "4097 ww1 4097", "-1 ww1 -1", "1048577 wr1 1"} {
		full := append(slices.Clone(l), sample.Edges(more)...)
		if got, why := cycle.Shortest(full, 14, 0); len(got) != 0 || why != api.ErrFull {
			t.Errorf("of 4096 ids, and %s: %d edges, %d", more, len(got), why)
		}
		if got, why := cycle.Shortest(full, 14, 8); len(got) != 0 || why != api.ErrFull {
			t.Errorf("where there is no walk, either, with %s: %d edges, %d", more, len(got), why)
		}
	}
	// What is not of the mask has no ids that count.
	for _, more := range []string{"0 rw1 7", "7 x1 4097", "4097 rw1 4098"} {
		if got, why := cycle.Shortest(append(slices.Clone(l), sample.Edges(more)...), 6, 0); !slices.Equal(got, l) || why != api.OK {
			t.Errorf("of 4096 ids, and %s: %d edges, %d", more, len(got), why)
		}
	}
	for _, kind := range sample.OddNumbers() {
		more := api.Edge{From: 5000, To: 5001, Kind: kind, Key: 5}
		for _, mask := range []int{-1, -13, 15, math.MaxInt, math.MinInt + 2} {
			if got, why := cycle.Shortest(append(slices.Clone(l), more), mask, 0); !slices.Equal(got, l) || why != api.OK {
				t.Errorf("of 4096 ids, and one edge of kind %d, of the mask %d: %d edges, %d", kind, mask, len(got), why)
			}
		}
	}
	if got, why := cycle.Shortest(l[:4095], 14, 0); len(got) != 0 || why != api.ErrNone {
		t.Errorf("of a ring that lacks one edge: %d edges, %d", len(got), why)
	}
}

func TestKeysAreFull(t *testing.T) {
	const most = 1048575
	var l []api.Edge
	for key := range most {
		l = append(l, api.Edge{From: 2, To: 1, Kind: 1, Key: 3 * key})
	}
	l = append(l, api.Edge{From: 1, To: 2, Kind: 3, Key: 3 * (most - 1)})
	if got, why := cycle.Shortest(l, 14, 0); walk.Text(got) != "1 rw3145722 2 ww0 1" || why != api.OK {
		t.Errorf("of so many keys: %s, %d", walk.Text(got), why)
	}
	more := api.Edge{From: 1, To: 2, Kind: 2, Key: 1}
	if got, why := cycle.Shortest(append(l, more), 10, 0); walk.Text(got) != "1 rw3145722 2 ww0 1" || why != api.OK {
		t.Errorf("with one more that is not of the mask: %s, %d", walk.Text(got), why)
	}
	for _, must := range []int{0, 8, 4} {
		if got, why := cycle.Shortest(append(l, more), 14, must); len(got) != 0 || why != api.ErrFull {
			t.Errorf("with one more, and must %d: %s, %d", must, walk.Text(got), why)
		}
	}
	if got, why := cycle.Shortest(append(l[:most], more)[1:], 6, 8); len(got) != 0 || why != api.ErrNone {
		t.Errorf("with one more, and one less: %s, %d", walk.Text(got), why)
	}
}

// 27.2

func TestSimple(t *testing.T) {
	r := rand.New(rand.NewSource(273))
	found := 0
	for range 400 {
		n := 5 + r.Intn(60)
		l := sample.DrawEdges(r.Intn, upTo(n), n+r.Intn(n))
		mask, must := 14, []int{0, 2, 4, 8}[r.Intn(4)]
		got, why := cycle.Shortest(l, mask, must)
		if why != api.OK {
			continue
		}
		found++
		if !walk.Closed(got) || !walk.Simple(got) || !walk.Same(got, walk.Turn(got)) {
			t.Fatalf("%s is told", walk.Text(got))
		}
		for _, e := range got {
			if e.From < got[0].From || !slices.Contains(l, e) || !sample.IsOf(e.Kind, mask) {
				t.Fatalf("%s has %v", walk.Text(got), e)
			}
		}
		if must != 0 && walk.Mask(got)&must == 0 {
			t.Fatalf("%s has nothing of %d", walk.Text(got), must)
		}
	}
	if found < 100 {
		t.Errorf("%d alone are found", found)
	}
}

// 27.3

func TestItStays(t *testing.T) {
	r := rand.New(rand.NewSource(274))
	for range 300 {
		n := 3 + r.Intn(20)
		l := sample.DrawEdges(r.Intn, upTo(n), n+r.Intn(2*n))
		must := []int{0, 2, 4, 8}[r.Intn(4)]
		got, why := cycle.Shortest(l, 14, must)
		if why != api.OK {
			continue
		}
		for i, e := range l {
			if slices.Contains(got, e) {
				continue
			}
			if less, why := cycle.Shortest(slices.Delete(slices.Clone(l), i, i+1), 14, must); !slices.Equal(less, got) || why != api.OK {
				t.Fatalf("without %v: %s, not %s", e, walk.Text(less), walk.Text(got))
			}
		}
		for range 10 {
			e := sample.DrawEdges(r.Intn, upTo(n), 1)[0]
			if more, why := cycle.Shortest(append(slices.Clone(l), e), 14, must); len(more) > len(got) || why != api.OK {
				t.Fatalf("with %v: %s, not %s", e, walk.Text(more), walk.Text(got))
			}
		}
	}
}

// In whatever order edges stand, and however often, the same is told.
func TestOrderOfEdges(t *testing.T) {
	r := rand.New(rand.NewSource(275))
	for range 300 {
		n := 3 + r.Intn(20)
		l := sample.DrawEdges(r.Intn, upTo(n), 3*n)
		got, why := cycle.Shortest(l, 14, 8)
		other := append(slices.Clone(l), l[:r.Intn(len(l))]...)
		r.Shuffle(len(other), func(i, k int) { other[i], other[k] = other[k], other[i] })
		if same, cause := cycle.Shortest(other, 14, 8); !slices.Equal(got, same) || why != cause {
			t.Fatalf("%s, but in another order %s", walk.Text(got), walk.Text(same))
		}
	}
}

// Many

// Walks that are long go through all ids, whose edges stand in any order.
func TestRingOfAllIds(t *testing.T) {
	r := rand.New(rand.NewSource(276))
	ids := r.Perm(4096)
	for i := range ids {
		ids[i] = 3*ids[i] - 5000
	}
	l := sample.Ring(ids, 1)
	turned := walk.Turn(l)
	r.Shuffle(len(l), func(i, k int) { l[i], l[k] = l[k], l[i] })
	if got, why := cycle.Shortest(l, 14, 0); !slices.Equal(got, turned) || why != api.OK {
		t.Fatalf("of a ring: %d edges, %d", len(got), why)
	}
	last := turned[4095]
	last.Kind = api.RW
	l = append(l, last)
	turned[4095] = last
	if got, why := cycle.Shortest(l, 14, 8); !slices.Equal(got, turned) || why != api.OK {
		t.Fatalf("of a ring that must have its last edge: %d edges, %d", len(got), why)
	}
	if got, why := cycle.Shortest(l, 8, 8); len(got) != 0 || why != api.ErrNone {
		t.Fatalf("of one edge: %d edges, %d", len(got), why)
	}
}

// Where nothing goes round, where little does, and where all does, with many edges.
func TestManyEdges(t *testing.T) {
	r := rand.New(rand.NewSource(277))
	ids := r.Perm(4096)
	var onward, layers []api.Edge
	for range 150000 {
		a, b := r.Intn(4096), r.Intn(4096)
		if a != b {
			onward = append(onward, api.Edge{From: ids[min(a, b)], To: ids[max(a, b)], Kind: 1 + r.Intn(2), Key: 5})
		}
		part := r.Intn(4)
		layers = append(layers, api.Edge{From: ids[a/4+part*1024], To: ids[b/4+(part+1)%4*1024], Kind: 1 + r.Intn(3), Key: 5})
	}
	if got, why := cycle.Shortest(onward, 14, 0); len(got) != 0 || why != api.ErrNone {
		t.Errorf("where nothing goes round: %s, %d", walk.Text(got), why)
	}
	onward = append(onward, api.Edge{From: ids[4000], To: ids[50], Kind: 3, Key: 1}, api.Edge{From: ids[2], To: ids[50], Kind: 3, Key: 1})
	for _, must := range []int{0, 8, 12} {
		got, why := cycle.Shortest(onward, 14, must)
		back := slices.IndexFunc(got, func(e api.Edge) bool { return e.Kind == 3 })
		if why != api.OK || !walk.Closed(got) || back < 0 || got[back].From != ids[4000] || !walk.Same(walk.Turn(got), got) {
			t.Errorf("where one goes back: %s, %d", walk.Text(got), why)
		}
	}
	if got, why := cycle.Shortest(onward, 14, 16); len(got) < 2 || why != api.OK {
		t.Errorf("must of another bit: %s, %d", walk.Text(got), why)
	}
	for _, must := range []int{0, 2, 4, 8} {
		got, why := cycle.Shortest(layers, 14, must)
		if len(got) != 4 || why != api.OK || got[0].From != slices.MinFunc(got, sample.CompareEdges).From || must != 0 && walk.Mask(got)&must == 0 {
			t.Errorf("where all go round by fours: %s, %d", walk.Text(got), why)
		}
	}
}

// Where there are 3 ways on, from each of hundreds of ids, walks are not to be counted.
func TestManyWalks(t *testing.T) {
	const layers = 300
	var l []api.Edge
	for layer := range layers {
		for a := range 3 {
			for b := range 3 {
				l = append(l, api.Edge{From: 3*layer + a, To: (3*layer + 3 + b) % (3 * layers), Kind: 2 - layer&1, Key: 5 - b})
			}
		}
	}
	var want []api.Edge
	for layer := range layers - 1 {
		// The least key leads to the last one of three.
		want = append(want, api.Edge{From: (3*layer + 2) * min(layer, 1), To: 3*layer + 5, Kind: 2 - layer&1, Key: 3})
	}
	want = append(want, api.Edge{From: 3*layers - 1, To: 0, Kind: 1, Key: 5})
	if got, why := cycle.Shortest(l, 14, 0); !slices.Equal(got, want) || why != api.OK {
		t.Errorf("of all: %s, %d", walk.Text(got), why)
	}
	if got, why := cycle.Shortest(l, 14, 8); len(got) != 0 || why != api.ErrNone {
		t.Errorf("with what none has: %s, %d", walk.Text(got), why)
	}
	want[layers/2] = api.Edge{From: 3*layers/2 + 2, To: 3*layers/2 + 5, Kind: 3, Key: 9}
	if got, why := cycle.Shortest(append(l, want[layers/2]), 14, 8); !slices.Equal(got, want) || why != api.OK {
		t.Errorf("with what one alone has: %s, %d", walk.Text(got), why)
	}
}

func TestTheGreatestNumbers(t *testing.T) {
	l := []api.Edge{{From: math.MaxInt, To: math.MinInt, Kind: 1, Key: math.MaxInt}, {From: math.MinInt, To: 0, Kind: 3, Key: math.MinInt}, {From: 0, To: math.MaxInt, Kind: 2, Key: 0}, {From: math.MinInt, To: 0, Kind: 3, Key: math.MaxInt}}
	if got, why := want(t, l, -1, -1); !slices.Equal(got, []api.Edge{l[1], l[2], l[0]}) || why != api.OK {
		t.Errorf("%v, %d", got, why)
	}
}

// Memory

func TestAnswersAreNewMemory(t *testing.T) {
	l := sample.Edges("2 rw4 1 ww5 2; 7 x1 7")
	got, _ := want(t, l, 14, 0)
	for i := range got {
		got[i] = api.Edge{}
	}
	want(t, l, 14, 0)
}
