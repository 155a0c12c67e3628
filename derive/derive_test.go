package derive_test

import (
	"math"
	"math/rand"
	"slices"
	"testing"

	"tenter/api"
	"tenter/delta"
	"tenter/derive"
	"tenter/dsg"
	"tenter/history"
	"tenter/multi"
	"tenter/offend"
	"tenter/pack"
	"tenter/sample"
)

// What the chapter says, once more, edge by edge and read by read.

func edgesBy(a, b api.History) ([]api.Heavy, api.Errno) {
	if !history.Right(a) || !history.Right(b) {
		return nil, api.ErrForm
	}
	in := map[api.Edge][2]int{}
	for i, h := range []api.History{a, b} {
		for _, x := range dsg.Edges(h) {
			counts := in[x.Edge]
			counts[i] = x.Count
			in[x.Edge] = counts
		}
	}
	var l []api.Heavy
	for e, counts := range in {
		if counts[0] != counts[1] {
			l = append(l, api.Heavy{Edge: e, Count: counts[1] - counts[0]})
		}
	}
	slices.SortFunc(l, func(x, y api.Heavy) int {
		if pack.Less(x.Edge, y.Edge) {
			return -1
		}
		return 1
	})
	return l, api.OK
}

// onlyBy tells the reads of a, by a phenomenon, that b has not.
func onlyBy(a, b api.History, phen int) []api.Bad {
	var l []api.Bad
	others := offend.Of(b, phen)
	for _, x := range offend.Of(a, phen) {
		if !slices.Contains(others, x) {
			l = append(l, x)
		}
	}
	return l
}

func badsBy(a, b api.History, phen int) (went, came []api.Bad, why api.Errno) {
	if !history.Right(a) || !history.Right(b) {
		return nil, nil, api.ErrForm
	}
	return onlyBy(a, b, phen), onlyBy(b, a, phen), api.OK
}

func heavy(from, to, kind, key, count int) api.Heavy {
	return api.Heavy{Edge: api.Edge{From: from, To: to, Kind: kind, Key: key}, Count: count}
}

func bad(tx, place, of, key, nth int) api.Bad {
	return api.Bad{Tx: tx, Place: place, Of: api.Version{Tx: of, Key: key, Nth: nth}}
}

// noPhens are neither G1a nor G1b.
func noPhens() []int {
	return []int{0, api.G0, api.G1c, api.G2, api.PhenCount, -1, -2, -3, math.MinInt, math.MaxInt, 1<<32 + 2, 1<<32 + 3}
}

// wantUnchanged makes a call, and looks whether it left its histories alone.
func wantUnchanged(t *testing.T, a, b api.History, call func()) {
	t.Helper()
	wasA, wasB := sample.Copy(a), sample.Copy(b)
	call()
	if !history.Same(a, wasA) || !history.Same(b, wasB) {
		t.Fatalf("%s became %s, %s became %s", sample.Text(wasA), sample.Text(a), sample.Text(wasB), sample.Text(b))
	}
}

func wantEdges(t *testing.T, a, b api.History, l []api.Heavy, why api.Errno) {
	t.Helper()
	wantUnchanged(t, a, b, func() {
		if got, gotWhy := derive.Edges(a, b); gotWhy != why || !slices.Equal(got, l) {
			t.Fatalf("Edges from %s to %s: %v, %d; want %v, %d", sample.Text(a), sample.Text(b), got, gotWhy, l, why)
		}
	})
}

func wantBads(t *testing.T, a, b api.History, phen int, went, came []api.Bad, why api.Errno) {
	t.Helper()
	wantUnchanged(t, a, b, func() {
		gotWent, gotCame, gotWhy := derive.Bads(a, b, phen)
		if gotWhy != why || !slices.Equal(gotWent, went) || !slices.Equal(gotCame, came) {
			t.Fatalf("Bads %d from %s to %s: %v, %v, %d; want %v, %v, %d", phen, sample.Text(a), sample.Text(b), gotWent, gotCame, gotWhy, went, came, why)
		}
	})
}

// wantAny looks by all calls, there and back, at what goes by the words of the chapter.
func wantAny(t *testing.T, a, b api.History) {
	t.Helper()
	for _, h := range [][2]api.History{{a, b}, {b, a}} {
		l, why := edgesBy(h[0], h[1])
		wantEdges(t, h[0], h[1], l, why)
		for _, phen := range []int{api.G1a, api.G1b} {
			went, came, why := badsBy(h[0], h[1], phen)
			wantBads(t, h[0], h[1], phen, went, came, why)
		}
	}
}

// The example of the chapter.
func TestExample(t *testing.T) {
	h := sample.History("1 c w5; 2 c w5 r5@1.1; 3 c r5@0 r5@0; 5: 1 2")
	wantEdges(t, api.History{}, h, []api.Heavy{heavy(1, 2, api.WW, 5, 1), heavy(1, 2, api.WR, 5, 1), heavy(3, 1, api.RW, 5, 2)}, api.OK)
	wantEdges(t, h, api.History{}, []api.Heavy{heavy(1, 2, api.WW, 5, -1), heavy(1, 2, api.WR, 5, -1), heavy(3, 1, api.RW, 5, -2)}, api.OK)
}

// 19.1

func TestEdges(t *testing.T) {
	for _, l := range []struct {
		a, b string
		want []api.Heavy
	}{
		{"", "", nil},
		{"", "1 c w5; 5: 1", nil},
		{"1 c w5; 2 c w5; 5: 1 2", "1 c w5; 2 c w5; 5: 1 2", nil},
		// An order that is turned.
		{"1 c w5; 2 c w5; 5: 1 2", "1 c w5; 2 c w5; 5: 2 1", []api.Heavy{heavy(1, 2, api.WW, 5, -1), heavy(2, 1, api.WW, 5, 1)}},
		// Counts that are more, less, and the same.
		{"1 c w5; 2 c r5@1.1; 5: 1", "1 c w5; 2 c r5@1.1 r5@1.1 r5@1.1; 5: 1", []api.Heavy{heavy(1, 2, api.WR, 5, 2)}},
		{"1 c w5; 2 c r5@1.1 r5@1.1 r5@1.1; 5: 1", "1 c w5; 2 c r5@1.1; 5: 1", []api.Heavy{heavy(1, 2, api.WR, 5, -2)}},
		{"1 c w5; 2 c r5@1.1; 3 c r5@0; 5: 1", "1 c w5 w6; 2 c r6@0 r5@1.1; 3 c r5@0; 5: 1; 6: 1", []api.Heavy{heavy(2, 1, api.RW, 6, 1)}},
		// A write that makes what was read no last one; one that is not Done any more; one in between.
		{"1 c w5; 2 c r5@1.1; 5: 1", "1 c w5 w5; 2 c r5@1.1; 5: 1", []api.Heavy{heavy(1, 2, api.WR, 5, -1)}},
		{"1 c w5; 2 c r5@1.1; 5: 1", "1 a w5; 2 c r5@1.1", []api.Heavy{heavy(1, 2, api.WR, 5, -1)}},
		{"1 c w5; 2 c w5; 3 c r5@1.1; 5: 1 2", "1 c w5; 2 c w5; 3 c r5@1.1; 4 c w5; 5: 1 4 2", []api.Heavy{
			heavy(1, 2, api.WW, 5, -1), heavy(1, 4, api.WW, 5, 1), heavy(3, 2, api.RW, 5, -1), heavy(3, 4, api.RW, 5, 1), heavy(4, 2, api.WW, 5, 1),
		}},
		// By From, Kind, Key and To, whatever comes and goes.
		{"1 c w1 w2; 2 c w1 w2; 3 c r1@0; 1: 1 2; 2: 1 2", "1 c w1 w2; 2 c w1 w2; 3 c r2@0 r1@1.1; 1: 1 2; 2: 2 1", []api.Heavy{
			heavy(1, 2, api.WW, 2, -1), heavy(1, 3, api.WR, 1, 1), heavy(2, 1, api.WW, 2, 1), heavy(3, 1, api.RW, 1, -1), heavy(3, 2, api.RW, 1, 1), heavy(3, 2, api.RW, 2, 1),
		}},
	} {
		a, b := sample.History(l.a), sample.History(l.b)
		wantEdges(t, a, b, l.want, api.OK)
		var back []api.Heavy
		for _, x := range l.want {
			back = append(back, api.Heavy{Edge: x.Edge, Count: -x.Count})
		}
		wantEdges(t, b, a, back, api.OK)
		wantAny(t, a, b)
	}
}

func TestBads(t *testing.T) {
	for _, l := range []struct {
		a, b       string
		phen       int
		went, came []api.Bad
	}{
		{"", "", api.G1a, nil, nil},
		{"", "1 a w5 w5; 2 c r5@1.1", api.G1a, nil, []api.Bad{bad(2, 0, 1, 5, 1)}},
		{"", "1 a w5 w5; 2 c r5@1.1", api.G1b, nil, []api.Bad{bad(2, 0, 1, 5, 1)}},
		{"1 a w5; 2 c r5@1.1", "1 a w5; 2 c r5@1.1", api.G1a, nil, nil},
		// Who was read is Done, and is not; who reads likewise.
		{"1 c w5; 2 c r5@1.1; 5: 1", "1 a w5; 2 c r5@1.1", api.G1a, nil, []api.Bad{bad(2, 0, 1, 5, 1)}},
		{"1 a w5; 2 a r5@1.1", "1 a w5; 2 c r5@1.1", api.G1a, nil, []api.Bad{bad(2, 0, 1, 5, 1)}},
		// A write more behind what was read; just one phenomenon changes.
		{"1 a w5; 2 c r5@1.1", "1 a w5 w5; 2 c r5@1.1", api.G1b, nil, []api.Bad{bad(2, 0, 1, 5, 1)}},
		{"1 a w5; 2 c r5@1.1", "1 a w5 w5; 2 c r5@1.1", api.G1a, nil, nil},
		// A read at another place, of another version, or of another transaction is another one.
		{"1 a w5; 2 c r5@1.1", "1 a w5; 2 c r6@0 r5@1.1", api.G1a, []api.Bad{bad(2, 0, 1, 5, 1)}, []api.Bad{bad(2, 1, 1, 5, 1)}},
		{"1 a w5 w5; 2 c r5@1.1", "1 a w5 w5; 2 c r5@1.2", api.G1a, []api.Bad{bad(2, 0, 1, 5, 1)}, []api.Bad{bad(2, 0, 1, 5, 2)}},
		{"1 a w5; 2 a w5; 3 c r5@1.1", "1 a w5; 2 a w5; 3 c r5@2.1", api.G1a, []api.Bad{bad(3, 0, 1, 5, 1)}, []api.Bad{bad(3, 0, 2, 5, 1)}},
		{"1 a w5 w6; 3 c r5@1.1", "1 a w5 w6; 3 c r6@1.1", api.G1a, []api.Bad{bad(3, 0, 1, 5, 1)}, []api.Bad{bad(3, 0, 1, 6, 1)}},
		// Several, in order; what both have is left out.
		{"1 a w5 w6; 2 c r6@1.1 r5@1.1 r6@1.1; 3 c r5@1.1 r5@0; 4 c r5@1.1", "1 a w5 w6; 2 c r5@1.1 r5@1.1 r5@1.1; 3 c r5@0 r5@1.1; 4 c r5@1.1", api.G1a,
			[]api.Bad{bad(2, 0, 1, 6, 1), bad(2, 2, 1, 6, 1), bad(3, 0, 1, 5, 1)}, []api.Bad{bad(2, 0, 1, 5, 1), bad(2, 2, 1, 5, 1), bad(3, 1, 1, 5, 1)}},
		{"1 c w5 w5; 2 c r5@1.1 r5@1.2; 3 c r5@1.2; 5: 1", "1 c w5 w5 w5; 2 c r5@1.1 r5@1.2; 3 c r5@1.2; 5: 1", api.G1b, nil, []api.Bad{bad(2, 1, 1, 5, 2), bad(3, 0, 1, 5, 2)}},
	} {
		a, b := sample.History(l.a), sample.History(l.b)
		wantBads(t, a, b, l.phen, l.went, l.came, api.OK)
		wantBads(t, b, a, l.phen, l.came, l.went, api.OK)
		wantAny(t, a, b)
	}
}

func TestBadsOfOtherPhenomena(t *testing.T) {
	a, b := sample.History("1 a w5 w5; 2 c r5@1.1; 3 c w6 w6; 4 c r6@3.1; 6: 3"), sample.History("1 a w5 w5; 2 c r5@1.2; 3 c w6 w6; 4 c r5@1.1; 6: 3")
	wantAny(t, a, b)
	for _, phen := range noPhens() {
		wantBads(t, a, b, phen, nil, nil, api.OK)
		wantBads(t, api.History{}, b, phen, nil, nil, api.OK)
	}
}

// TestOfWrong has histories that are not right, each for another reason, as the one before and as the one behind.
func TestOfWrong(t *testing.T) {
	right := sample.History("1 c w1 w1; 2 c w1 r1@1.1; 3 a w2; 4 c r2@3.1; 1: 1 2")
	var wrong []api.History
	for _, text := range []string{
		"1 c w1; 2 c w1; 1: 1", "1 c w1; 2 c w1", "1 c w1; 2 c r1@1.2; 1: 1", "2 c; 1 c", "1 c; 1 c", "1 c w1; 1: 1; 1: 1", "1 c w1; 1: 1 1", "1 c w1; 1: 1; 2: 1", "1 c w1; 1: 1; 2:",
		"1 c w1 w2; 2: 1; 1: 1", "1 a w1; 1: 1", "0 a", "1048576 a", "1 c r1@1.1", "1 c r1@9.1", "1: 1", "5:",
	} {
		wrong = append(wrong, sample.History(text))
	}
	wrong = append(wrong, api.History{Txs: []api.Tx{{Id: 1, Ops: make([]api.Op, 1)}}}, api.History{Txs: []api.Tx{{Id: math.MinInt}}}, api.History{Txs: make([]api.Tx, api.MaxTxs+1)})
	for _, h := range wrong {
		if history.Right(h) {
			t.Fatalf("%s is right", sample.Text(h))
		}
		for _, both := range [][2]api.History{{right, h}, {h, right}, {api.History{}, h}, {h, api.History{}}, {h, h}, {h, wrong[0]}} {
			wantEdges(t, both[0], both[1], nil, api.ErrForm)
			for _, phen := range append(noPhens(), api.G1a, api.G1b) {
				wantBads(t, both[0], both[1], phen, nil, nil, api.ErrForm)
			}
		}
	}
}

func TestOfTheGreatestNumbers(t *testing.T) {
	const id, key = 1048575, 1048575
	writer := api.Tx{Id: id - 1, Done: true, Ops: []api.Op{{Key: key}}}
	reader := api.Tx{Id: id, Done: true, Ops: slices.Repeat([]api.Op{{Read: true, Key: key, Tx: id - 1, Nth: 1}}, api.MaxOps)}
	h := api.History{Txs: []api.Tx{writer, reader}, Orders: []api.Order{{Key: key, Txs: []int{id - 1}}}}
	wantEdges(t, api.History{}, h, []api.Heavy{heavy(id-1, id, api.WR, key, 4095)}, api.OK)
	wantEdges(t, h, api.History{}, []api.Heavy{heavy(id-1, id, api.WR, key, -4095)}, api.OK)
	aborted := sample.Copy(h)
	aborted.Txs[0].Done, aborted.Orders = false, nil
	var l []api.Bad
	for place := range api.MaxOps {
		l = append(l, bad(id, place, id-1, key, 1))
	}
	wantBads(t, h, aborted, api.G1a, nil, l, api.OK)
	wantBads(t, aborted, h, api.G1a, l, nil, api.OK)
	wantAny(t, h, aborted)
}

// chain has as many transactions as may be, and a key for each one, which it writes, and which the next one reads.
func chain() api.History {
	var h api.History
	for id := 1; id <= api.MaxTxs; id++ {
		t := api.Tx{Id: id, Done: true, Ops: []api.Op{{Key: id}, {Key: 5000}}}
		if id > 1 {
			t.Ops = append(t.Ops, api.Op{Read: true, Key: id - 1, Tx: id - 1, Nth: 1})
		}
		h.Txs = append(h.Txs, t)
		h.Orders = append(h.Orders, api.Order{Key: id, Txs: []int{id}})
	}
	last := api.Order{Key: 5000}
	for _, t := range h.Txs {
		last.Txs = append(last.Txs, t.Id)
	}
	h.Orders = append(h.Orders, last)
	return h
}

func TestOfMany(t *testing.T) {
	h := chain()
	wantEdges(t, api.History{}, h, dsg.Edges(h), api.OK)
	other := sample.Copy(h)
	slices.Reverse(other.Orders[api.MaxTxs].Txs)
	l, _ := edgesBy(h, other)
	if len(l) != 2*(api.MaxTxs-1) {
		t.Fatalf("%d edges", len(l))
	}
	wantEdges(t, h, other, l, api.OK)
}

// oftener tells h with some reads once more behind themselves, so that edges' counts are more.
func oftener(h api.History, from *rand.Rand) api.History {
	h = sample.Copy(h)
	for i, t := range h.Txs {
		for place := len(t.Ops) - 1; place >= 0; place-- {
			if t.Ops[place].Read && from.Intn(2) == 0 {
				h.Txs[i].Ops = slices.Insert(h.Txs[i].Ops, place, t.Ops[place])
			}
		}
	}
	return h
}

// drawPair draws two histories: two that have little to do with one another, two in which there are the same reads, more or less often, or one and what some edits make of it.
func drawPair(from *rand.Rand) (a, b api.History) {
	a = sample.DrawHistory(from.Intn)
	switch from.Intn(4) {
	case 0:
		return a, sample.DrawHistory(from.Intn)
	case 1:
		return oftener(a, from), oftener(a, from)
	}
	b = a
	for range 1 + from.Intn(4) {
		b = sample.DrawEdit(b, from.Intn)
	}
	return a, b
}

func TestOfAny(t *testing.T) {
	from := rand.New(rand.NewSource(191))
	met := map[string]int{}
	for range 1500 {
		a, b := drawPair(from)
		wantAny(t, a, b)
		l, _ := edgesBy(a, b)
		for _, x := range l {
			was, is := dsg.Count(a, x.Edge), dsg.Count(b, x.Edge)
			switch {
			case was > 0 && is > was:
				met["more"]++
			case is > 0 && is < was:
				met["less"]++
			case was == 0:
				met["came"]++
			default:
				met["went"]++
			}
		}
		for _, phen := range []int{api.G1a, api.G1b} {
			went, came, _ := badsBy(a, b, phen)
			met["bad went"] += len(went)
			met["bad came"] += len(came)
		}
		other := sample.Now(sample.DrawOther(api.Delta{Now: b.Txs, New: b.Orders}, from.Intn))
		if !history.Right(other) {
			met["wrong"]++
		}
		wantAny(t, a, other)
	}
	for _, what := range []string{"more", "less", "came", "went", "bad went", "bad came", "wrong"} {
		if met[what] < 50 {
			t.Errorf("%s is too rare: %v", what, met)
		}
	}
}

// 19.2

func TestWhatIsTouched(t *testing.T) {
	from := rand.New(rand.NewSource(192))
	told, untouched := 0, 0
	for range 1500 {
		a, b := drawPair(from)
		d, _ := delta.Of(a, b)
		var keys []int
		l, _ := derive.Edges(a, b)
		for _, x := range l {
			keys = append(keys, x.Edge.Key)
		}
		for _, phen := range []int{api.G1a, api.G1b} {
			went, came, _ := derive.Bads(a, b, phen)
			for _, x := range slices.Concat(went, came) {
				keys = append(keys, x.Of.Key)
			}
		}
		for _, key := range keys {
			if told++; !slices.Contains(delta.Keys(d), key) {
				t.Fatalf("from %s to %s: key %d is told, and %v are touched", sample.Text(a), sample.Text(b), key, delta.Keys(d))
			}
		}
		if len(delta.Keys(d)) < 3 {
			untouched++
		}
	}
	if told < 1000 || untouched < 200 {
		t.Errorf("too little to look at: %d, %d", told, untouched)
	}
}

// 19.3

// put adds to edges what is told of a change; the edges that are told in turn, with their counts.
func put(t *testing.T, l []api.Heavy, change []api.Heavy) []api.Heavy {
	t.Helper()
	m := multi.Of(l)
	for _, x := range change {
		if why := m.Add(x.Edge, x.Count); why != api.OK || x.Count == 0 {
			t.Fatalf("to %v: %v: %d", l, x, why)
		}
	}
	return m.Edges()
}

// sum tells what is told of changes, edge by edge, but for what comes to 0.
func sum(l ...[]api.Heavy) map[api.Edge]int {
	all := map[api.Edge]int{}
	for _, x := range slices.Concat(l...) {
		all[x.Edge] += x.Count
		if all[x.Edge] == 0 {
			delete(all, x.Edge)
		}
	}
	return all
}

func sameSum(a, b map[api.Edge]int) bool {
	if len(a) != len(b) {
		return false
	}
	for e, n := range a {
		if b[e] != n {
			return false
		}
	}
	return true
}

func TestByAndBy(t *testing.T) {
	from := rand.New(rand.NewSource(193))
	for range 1000 {
		a, b := drawPair(from)
		c := sample.DrawEdit(b, from.Intn)
		if from.Intn(4) == 0 {
			c = a
		}
		ab, _ := derive.Edges(a, b)
		bc, _ := derive.Edges(b, c)
		ac, _ := derive.Edges(a, c)
		if got := put(t, dsg.Edges(a), ab); !slices.Equal(got, dsg.Edges(b)) {
			t.Fatalf("from %s to %s: %v", sample.Text(a), sample.Text(b), got)
		}
		if !sameSum(sum(ab, bc), sum(ac)) {
			t.Fatalf("from %s to %s, and to %s: %v and %v, and %v in all", sample.Text(a), sample.Text(b), sample.Text(c), ab, bc, ac)
		}
	}
}

// turned tells the reads that a change leaves of l.
func turned(l, went, came []api.Bad) []api.Bad {
	all := slices.DeleteFunc(slices.Clone(l), func(b api.Bad) bool { return slices.Contains(went, b) })
	all = append(all, came...)
	slices.SortFunc(all, func(a, b api.Bad) int {
		if offend.Less(a, b) {
			return -1
		}
		return 1
	})
	return all
}

func TestReadsByAndBy(t *testing.T) {
	from := rand.New(rand.NewSource(194))
	for range 1000 {
		a, b := drawPair(from)
		c := sample.DrawEdit(b, from.Intn)
		for _, phen := range []int{api.G1a, api.G1b} {
			went, came, _ := derive.Bads(a, b, phen)
			l := turned(offend.Of(a, phen), went, came)
			went, came, _ = derive.Bads(b, c, phen)
			both := turned(l, went, came)
			went, came, _ = derive.Bads(a, c, phen)
			atOnce := turned(offend.Of(a, phen), went, came)
			if !slices.Equal(l, offend.Of(b, phen)) || !slices.Equal(both, offend.Of(c, phen)) || !slices.Equal(atOnce, both) {
				t.Fatalf("from %s to %s, and to %s: %v, %v, %v", sample.Text(a), sample.Text(b), sample.Text(c), l, both, atOnce)
			}
		}
	}
}

// Memory

func TestAnswersAreNewMemory(t *testing.T) {
	a, b := sample.History("1 a w5 w5; 2 c r5@1.1 r5@1.2; 3 c w6; 4 c r6@3.1; 6: 3"), sample.History("1 a w5 w5; 2 c r5@1.2 r5@1.1; 3 c w6; 4 c r6@0; 6: 3")
	l, _ := derive.Edges(a, b)
	went, came, _ := derive.Bads(a, b, api.G1a)
	want := []api.Heavy{heavy(3, 4, api.WR, 6, -1), heavy(4, 3, api.RW, 6, 1)}
	wantWent, wantCame := []api.Bad{bad(2, 0, 1, 5, 1), bad(2, 1, 1, 5, 2)}, []api.Bad{bad(2, 0, 1, 5, 2), bad(2, 1, 1, 5, 1)}
	// What is behind the end of one list must not be the other one.
	_ = append(went, make([]api.Bad, cap(went)-len(went))...)
	_ = append(came, make([]api.Bad, cap(came)-len(came))...)
	sample.Spoil(a)
	sample.Spoil(b)
	if !slices.Equal(l, want) || !slices.Equal(went, wantWent) || !slices.Equal(came, wantCame) {
		t.Errorf("%v, %v, %v", l, went, came)
	}
}
