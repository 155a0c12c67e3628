package phen_test

import (
	"math"
	"math/rand"
	"slices"
	"testing"

	"tenter/api"
	"tenter/cycle"
	"tenter/dsg"
	"tenter/history"
	"tenter/offend"
	"tenter/phen"
	"tenter/sample"
	"tenter/topo"
	"tenter/txn"
)

// What the chapter says, once more: an edge is on a closed walk, if its end leads to its beginning.

func roundBy(l []api.Edge, mask, must int) bool {
	of := slices.DeleteFunc(slices.Clone(l), func(e api.Edge) bool { return !sample.IsOf(e.Kind, mask) })
	ahead := sample.Ahead(of)
	return slices.ContainsFunc(of, func(e api.Edge) bool {
		return (must&14 == 0 || sample.IsOf(e.Kind, must)) && (e.From == e.To || ahead[e.To][e.From])
	})
}

// readBy tells whether a right history has a read that is aborted, or in between.
func readBy(h api.History, is func(of api.Tx, v api.Op) bool) bool {
	for _, t := range h.Txs {
		for _, o := range t.Ops {
			of, there := history.Find(h, o.Tx)
			if t.Done && o.Read && there && of.Id != t.Id && is(of, o) {
				return true
			}
		}
	}
	return false
}

func allBy(h api.History) [api.PhenCount]bool {
	var all [api.PhenCount]bool
	if !history.Right(h) {
		return all
	}
	l := dsg.Plain(dsg.Edges(h))
	all[1], all[4], all[5] = roundBy(l, 2, 0), roundBy(l, 6, 0), roundBy(l, 14, 8)
	all[2] = readBy(h, func(of api.Tx, o api.Op) bool { return !of.Done })
	all[3] = readBy(h, func(of api.Tx, o api.Op) bool { return o.Nth < txn.Writes(of, o.Key) })
	return all
}

// oddPhens are none.
func oddPhens() []int {
	return []int{math.MinInt, -1 << 32, -5, -1, 0, 6, 7, 64, 65, 1<<32 + 1, 1<<32 + 5, math.MaxInt}
}

// text tells a history, if it is not too long to be looked at.
func text(h api.History) string {
	if len(h.Txs) > 20 {
		return "a great history"
	}
	return sample.Text(h)
}

// want looks by all calls at a history that is meant to have these phenomena.
func want(t *testing.T, h api.History, all [api.PhenCount]bool) {
	t.Helper()
	was := sample.Copy(h)
	if got := phen.All(h); got != all {
		t.Fatalf("All of %s: %v, want %v", text(h), got, all)
	}
	for p := 1; p < api.PhenCount; p++ {
		if got := phen.Has(h, p); got != all[p] {
			t.Fatalf("Has of %s and %d: %v", text(h), p, got)
		}
	}
	for _, p := range oddPhens() {
		if phen.Has(h, p) {
			t.Fatalf("%s has %d", text(h), p)
		}
	}
	if !history.Same(h, was) {
		t.Fatalf("%s has become %s", text(was), text(h))
	}
}

// these tells some phenomena by their numbers.
func these(l ...int) [api.PhenCount]bool {
	var all [api.PhenCount]bool
	for _, p := range l {
		all[p] = true
	}
	return all
}

// 30.1: Masks

func TestMasks(t *testing.T) {
	for p, x := range map[int][2]int{api.G0: {2, 0}, api.G1a: {}, api.G1b: {}, api.G1c: {6, 0}, api.G2: {14, 8}} {
		if mask, must := phen.Masks(p); mask != x[0] || must != x[1] {
			t.Errorf("Masks of %d: %d, %d", p, mask, must)
		}
	}
	for _, p := range oddPhens() {
		if mask, must := phen.Masks(p); mask != 0 || must != 0 {
			t.Errorf("Masks of %d: %d, %d", p, mask, must)
		}
	}
}

// 30.1: Round

func TestRound(t *testing.T) {
	for _, x := range []struct {
		edges      string
		mask, must int
		round      bool
	}{
		{"1 ww5 2 rw5 1", 14, 0, true}, {"1 ww5 2 rw5 1", 14, 8, true}, {"1 ww5 2 rw5 1", 14, 2, true}, {"1 ww5 2 rw5 1", 14, 4, false}, {"1 ww5 2 rw5 1", 14, 12, true}, {"1 ww5 2 rw5 1", 6, 0, false}, {"1 ww5 2 rw5 1", 8, 8, false},
		{"", 14, 0, false}, {"1 ww5 2", 14, 0, false}, {"1 ww5 2; 1 ww5 2; 1 rw5 2", 14, 0, false}, {"1 ww5 2 ww5 3; 1 ww5 3", 14, 0, false}, {"1 ww5 2 ww5 3 ww5 1", 2, 0, true}, {"1 ww5 2 wr7 3 rw5 4 ww5 1", 14, 0, true}, {"2 ww5 1; 1 ww5 2", 2, 0, true},
		// To itself.
		{"1 ww5 1", 2, 0, true}, {"1 rw5 1", 14, 8, true}, {"1 ww5 1", 14, 8, false}, {"1 ww5 1", 12, 0, false}, {"1 ww5 1", 0, 0, false}, {"1 ww5 1 rw5 2", 14, 8, false},
		// An edge of must that does not come back is of no use; one that does is, however far from the rest.
		{"1 ww5 2 ww5 1; 2 rw5 3", 14, 8, false}, {"1 ww5 2 ww5 1; 3 rw5 1", 14, 8, false}, {"1 ww5 2 ww5 1; 3 ww5 4 ww5 3; 2 rw5 3", 14, 8, false}, {"1 ww5 2 ww5 1; 2 rw5 3 ww5 2", 14, 8, true}, {"1 ww5 2 ww5 1; 3 ww5 4 ww5 3; 2 rw5 3; 4 ww5 1", 14, 8, true}, {"1 ww5 2 ww5 1; 9 rw5 8 rw5 9", 14, 8, true},
		// Must asks for one edge, not for all of its kinds; what is not of the mask is no edge.
		{"1 ww5 2 wr5 1", 14, 12, true}, {"1 ww5 2 wr5 1", 6, 8, false}, {"1 ww5 2 wr5 1", 6, 12, true}, {"1 ww5 2 rw5 1", 6, 8, false}, {"1 ww5 1; 1 rw5 1", 2, 8, false}, {"1 ww5 2 ww5 1; 1 rw5 2", 14, 8, true},
		// Other bits of a must say nothing: any edge will do.
		{"1 ww5 2 ww5 1", 14, 16, true}, {"1 ww5 2 ww5 1", 14, 1, true}, {"1 ww5 2 ww5 1", 15, 17, true}, {"1 ww5 2 ww5 1", 17, 0, false},
		// Edges of other kinds are none.
		{"1 x5 1", 15, 0, false}, {"1 x5 2 ww5 1", 15, 0, false}, {"1 x5 2 ww5 1", -1, 1, false}, {"1 x5 1; 2 ww5 2", 15, 1, true},
		// Any numbers.
		{"-1 ww0 0 ww-5 -1", 2, 0, true}, {"9223372036854775807 rw9223372036854775807 -9223372036854775808 ww0 9223372036854775807", 14, 8, true}, {"4294967297 ww1 2 ww1 1", 14, 0, false},
	} {
		l := sample.Edges(x.edges)
		if got := phen.Round(l, x.mask, x.must); got != x.round || got != roundBy(l, x.mask, x.must) {
			t.Errorf("Round of %s, %d, %d: %v", x.edges, x.mask, x.must, got)
		}
		if !slices.Equal(l, sample.Edges(x.edges)) {
			t.Errorf("%s has become %v", x.edges, l)
		}
	}
	if phen.Round(nil, 14, 0) || phen.Round([]api.Edge{}, -1, 8) {
		t.Error("no edges go round")
	}
}

// Kinds that are none of the three are left out, whatever the mask.
func TestOddKinds(t *testing.T) {
	for _, kind := range append(sample.OddNumbers(), 5, 31, 32, 62, 67, -62, -63, -64, 1<<8+1, 1<<16+2) {
		for _, mask := range sample.Masks() {
			l := []api.Edge{{From: 1, To: 1, Kind: kind, Key: 5}, {From: 1, To: 2, Kind: kind, Key: 5}, {From: 2, To: 1, Kind: 1, Key: 5}}
			if phen.Round(l, mask, 0) || phen.Round(l, mask, mask) {
				t.Errorf("of kind %d and the mask %d: round", kind, mask)
			}
		}
	}
}

func TestRoundOfAny(t *testing.T) {
	r := rand.New(rand.NewSource(301))
	met := map[[2]bool]int{}
	for range 20000 {
		ids := sample.UpTo(1 + r.Intn(8))
		if r.Intn(3) == 0 {
			ids = sample.OddNumbers()[:1+r.Intn(8)]
		}
		l := sample.DrawEdges(r.Intn, ids, r.Intn(2*len(ids)+1))
		if r.Intn(2) > 0 {
			l = slices.DeleteFunc(l, func(e api.Edge) bool { return e.From == e.To })
		}
		mask, must := 14, []int{0, 2, 4, 8, 6, 10, 12}[r.Intn(7)]
		if r.Intn(4) == 0 {
			mask, must = sample.Masks()[r.Intn(len(sample.Masks()))], sample.Masks()[r.Intn(len(sample.Masks()))]
		}
		was, round := slices.Clone(l), roundBy(l, mask, must)
		if got := phen.Round(l, mask, must); got != round {
			t.Fatalf("Round of %v, %d, %d: %v", l, mask, must, got)
		}
		if _, why := cycle.Shortest(l, mask, must); (why == api.OK) != round {
			t.Fatalf("of %v, %d, %d: round %v, and the shortest %d", l, mask, must, round, why)
		}
		if !slices.Equal(l, was) {
			t.Fatalf("%v has become %v", was, l)
		}
		met[[2]bool{must&14 != 0, round}]++
	}
	for is, n := range met {
		if n < 1000 || len(met) != 4 {
			t.Errorf("must, and round, %v: %d", is, n)
		}
	}
}

// There may be more ids than a graph has nodes, and more keys than there are.
func TestRoundOfManyIds(t *testing.T) {
	for _, n := range []int{4095, 4096, 4097, 65537, 300000} {
		ids := sample.UpTo(n)
		for i := range ids {
			ids[i] = 7*i - 5000
		}
		slices.Reverse(ids)
		l := sample.Ring(ids, 1)
		if !phen.Round(l, 2, 0) || phen.Round(l, 12, 0) || phen.Round(l, 14, 8) || phen.Round(l[:n-1], 14, 0) {
			t.Errorf("of a ring of %d", n)
		}
		l[n/3].Kind = api.RW
		if !phen.Round(l, 14, 8) || phen.Round(l, 6, 0) || phen.Round(l[1:], 14, 8) {
			t.Errorf("of a ring of %d that has one of another kind", n)
		}
		// Two rings, and one edge between that does not come back.
		l[n/3].Kind = api.WW
		l[n/2-1].To, l[n-1].To = ids[0], ids[n/2]
		l = append(l, api.Edge{From: ids[0], To: ids[n-1], Kind: api.RW, Key: 1})
		if phen.Round(l, 14, 8) || !phen.Round(l, 14, 0) || !phen.Round(append(l, api.Edge{From: ids[n/2], To: ids[1], Kind: api.WR}), 14, 8) {
			t.Errorf("of two rings of %d", n)
		}
	}
}

func TestRoundOfManyEdges(t *testing.T) {
	var l []api.Edge
	for key := range 1500000 {
		l = append(l, api.Edge{From: key % 1000, To: 1000 + key%999, Kind: 1 + key%3, Key: 3 * key})
	}
	if phen.Round(l, 14, 0) {
		t.Error("where all lead to others: round")
	}
	if l = append(l, api.Edge{From: 1007, To: 5, Kind: api.RW}); !phen.Round(l, 14, 8) || phen.Round(l, 6, 0) {
		t.Error("where one leads back: not round")
	}
}

// 30.2

func TestHas(t *testing.T) {
	for text, all := range map[string][api.PhenCount]bool{
		// The example of the chapter.
		"1 c r1@0 w2; 2 c r2@0 w1; 1: 2; 2: 1": these(api.G2),
		"":                                     {}, "1 c; 2 a w1": {}, "1 c r1@0": {}, "1 c w1 r1@1.1 w1 r1@1.1; 1: 1": {}, "1 c w1; 2 c r1@1.1 w1; 3 c r1@2.1; 1: 1 2": {}, "1 c r1@0; 2 c w1; 1: 2": {},
		// G0: versions that stand in different orders.
		"1 c w1 w2; 2 c w1 w2; 1: 1 2; 2: 2 1":                                  these(api.G0, api.G1c),
		"1 c w1 w2; 2 c w1 w2; 1: 1 2; 2: 1 2":                                  {},
		"1 c w1 w3; 2 c w1 w2; 3 c w2 w3; 1: 1 2; 2: 2 3; 3: 3 1":               these(api.G0, api.G1c),
		"1 c w1 w2; 2 c w1 w2; 3 c r1@0; 1: 1 2; 2: 2 1":                        these(api.G0, api.G1c), // an RW edge that does not come back
		"1 c w1 w2; 2 c w1 w2 r1@0; 1: 1 2; 2: 2 1":                             these(api.G0, api.G1c, api.G2),
		"1 c w1 w2; 2 a w1 w2; 1: 1; 2: 1":                                      {},
		"1 c w1 w2 w4; 2 c w1 w2; 3 c w3; 4 c w3; 1: 1 2; 2: 2 1; 3: 4 3; 4: 1": these(api.G0, api.G1c),
		// G1a and G1b.
		"1 a w1; 2 c r1@1.1":                              these(api.G1a),
		"1 a w1; 2 a r1@1.1":                              {},
		"1 c w1 w1; 2 c r1@1.1; 1: 1":                     these(api.G1b),
		"1 c w1 w1; 2 c r1@1.2; 1: 1":                     {},
		"1 c w1 w1; 2 a r1@1.1; 1: 1":                     {},
		"1 a w5 w5; 2 c r5@1.1":                           these(api.G1a, api.G1b),
		"1 a w5 w5; 2 c r5@1.2":                           these(api.G1a),
		"1 c w1 w1 r1@1.1; 1: 1":                          {}, // not right: that version is its own, and there
		"1 a w1; 2 c r1@1.1; 3 c w2 w2; 4 c r2@3.1; 2: 3": these(api.G1a, api.G1b),
		// G1c: by reads, or by reads and versions.
		"1 c w1 r2@2.1; 2 c w2 r1@1.1; 1: 1; 2: 2":                      these(api.G1c),
		"1 c w1 r2@2.1; 2 c w2 w1; 1: 1 2; 2: 2":                        these(api.G1c),
		"1 c w1 r2@2.1; 2 c w2 w1; 1: 2 1; 2: 2":                        {},
		"1 c w1 r2@2.1; 2 a w2 r1@1.1; 1: 1":                            these(api.G1a),
		"1 c w1 r2@2.1; 2 c w2 w2 r1@1.1; 1: 1; 2: 2":                   these(api.G1b),
		"1 c w1 r3@3.1; 2 c w2 r1@1.1; 3 c w3 r2@2.1; 1: 1; 2: 2; 3: 3": these(api.G1c),
		// G2: lost updates, skewed reads, reads that part.
		"1 c r1@0 w1; 2 c r1@0 w1; 1: 1 2":                               these(api.G2),
		"1 c w1 w2; 2 c r1@0 r2@1.1; 1: 1; 2: 1":                         these(api.G2),
		"1 c w1 w2; 2 c r1@1.1 r2@1.1; 1: 1; 2: 1":                       {},
		"1 c w1; 2 c w2; 3 c r1@1.1 r2@0; 4 c r1@0 r2@2.1; 1: 1; 2: 2":   these(api.G2),
		"1 c w1; 2 c w2; 3 c r1@1.1 r2@0; 4 c r1@1.1 r2@2.1; 1: 1; 2: 2": {},
		"1 c r1@0 w2; 2 a r2@0 w1; 2: 1":                                 {},
		// All of them.
		"1 c w1 w2 r3@2.1; 2 c w1 w2 w3 w3 r1@0; 3 a w4; 4 c r4@3.1; 1: 1 2; 2: 2 1; 3: 2": these(1, 2, 3, 4, 5),
	} {
		h := sample.History(text)
		if !history.Right(h) {
			t.Fatalf("%s is not right", text)
		}
		want(t, h, all)
		if by := allBy(h); by != all {
			t.Fatalf("of %s: %v", text, by)
		}
	}
}

// TestOfWrong has histories that are not right, each for another reason, and that would have phenomena else.
func TestOfWrong(t *testing.T) {
	const all = "1 c w1 w2 r3@2.1; 2 c w1 w2 w3 w3 r1@0; 3 a w4; 4 c r4@3.1; 1: 1 2; 2: 2 1; 3: 2"
	for _, more := range []string{"; 5 c w7", "; 4 a", "; 5 c r9@9.1", "; 5 a r7@5.1", "; 1048576 a", "; 7:", "; 3: 2", "; 7: 1", "; 2: 1 2", "; 5 a r2@2.2", "; 0 a"} {
		h := sample.History(all + more)
		if history.Right(h) {
			t.Fatalf("with %s it is right", more)
		}
		want(t, h, these())
	}
	h := sample.History(all)
	for id := 5; len(h.Txs) < api.MaxTxs; id++ {
		h.Txs = append(h.Txs, api.Tx{Id: id})
	}
	want(t, h, these(1, 2, 3, 4, 5))
	h.Txs = append(h.Txs, api.Tx{Id: 5000})
	want(t, h, these())
}

// ringOf has as many transactions as may be, each of which reads what the one ahead of it wrote, the first one what the last one did.
func ringOf() api.History {
	var h api.History
	for id := 1; id <= api.MaxTxs; id++ {
		ahead := (id+api.MaxTxs-2)%api.MaxTxs + 1
		h.Txs = append(h.Txs, api.Tx{Id: id, Done: true, Ops: []api.Op{{Key: id}, {Read: true, Key: ahead, Tx: ahead, Nth: 1}}})
		h.Orders = append(h.Orders, api.Order{Key: id, Txs: []int{id}})
	}
	return h
}

func TestOfMany(t *testing.T) {
	h := ringOf()
	want(t, h, these(api.G1c))
	h.Txs[0].Ops[1] = api.Op{Read: true, Key: api.MaxTxs}
	want(t, h, these())
	h.Txs[api.MaxTxs-1].Ops = append(h.Txs[api.MaxTxs-1].Ops, api.Op{Read: true, Key: 1})
	want(t, h, these(api.G2))
	h = ringOf()
	h.Txs[2999].Ops = append(h.Txs[2999].Ops, api.Op{Read: true, Key: 3001})
	want(t, h, these(api.G1c, api.G2))
	for i := range h.Txs {
		h.Txs[i].Done = false
	}
	h.Orders = nil
	want(t, h, these())
}

func TestOfTheGreatestNumbers(t *testing.T) {
	want(t, sample.History("1048574 c r1048575@0 w1048574; 1048575 c r1048574@0 w1048575; 1048574: 1048574; 1048575: 1048575"), these(api.G2))
}

// drawn goes through right histories, with all that they have.
func drawn(seed int64, look func(h api.History, r *rand.Rand)) {
	r := rand.New(rand.NewSource(seed))
	for range 3000 {
		look(sample.DrawHistory(r.Intn), r)
	}
}

func TestOfAny(t *testing.T) {
	met, wrong := map[int]int{}, 0
	drawn(302, func(h api.History, r *rand.Rand) {
		all := allBy(h)
		want(t, h, all)
		for p, is := range all {
			if is {
				met[p]++
			}
		}
		if all == these() {
			met[0]++
		}
		other := sample.Now(sample.DrawOther(api.Delta{Now: h.Txs, New: h.Orders}, r.Intn))
		if !history.Right(other) {
			wrong++
		}
		want(t, other, allBy(other))
	})
	for p := range api.PhenCount {
		if met[p] < 100 || wrong < 500 {
			t.Errorf("some are too rare: %v; %d are wrong", met, wrong)
		}
	}
}

// 30.3

func TestOneBringsAnother(t *testing.T) {
	met := map[api.Errno]int{}
	drawn(303, func(h api.History, r *rand.Rand) {
		all := phen.All(h)
		if all[api.G0] && !all[api.G1c] {
			t.Fatalf("%s has G0 alone", sample.Text(h))
		}
		if all[api.G1a] != (len(offend.Of(h, api.G1a)) > 0) || all[api.G1b] != (len(offend.Of(h, api.G1b)) > 0) {
			t.Fatalf("%s has not the reads that it has", sample.Text(h))
		}
		var ids []int
		for _, one := range h.Txs {
			ids = append(ids, one.Id)
		}
		_, why := topo.Order(ids, dsg.Plain(dsg.Edges(h)))
		met[why]++
		if (why == api.OK) == (all[api.G0] || all[api.G1c] || all[api.G2]) {
			t.Fatalf("the order of %s is told with %d, but it has %v", sample.Text(h), why, all)
		}
		// Without one that is Done.
		for i := range h.Txs {
			h.Txs[i].Done = false
		}
		h.Orders = nil
		want(t, h, these())
	})
	if met[api.OK] < 300 || met[api.ErrCycle] < 300 {
		t.Errorf("some are too rare: %v", met)
	}
}
