package dsg_test

import (
	"math"
	"math/rand"
	"slices"
	"testing"

	"tenter/api"
	"tenter/dsg"
	"tenter/history"
	"tenter/pack"
	"tenter/sample"
	"tenter/txn"
)

// What the chapter says, once more, edge by edge, of histories that are right and have ids and keys to 9 alone.

// nextBy tells who has the next version behind that of an id, or behind what was there at first; 0, if nobody has.
func nextBy(h api.History, id, key int) int {
	all := append([]int{0}, history.Order(h, key)...)
	at := slices.Index(all, id)
	if at < 0 || at == len(all)-1 {
		return 0
	}
	return all[at+1]
}

// readsBy tells how many reads of a key, but for those of its own versions, a transaction has that are of an installed version or of what was there at first, by whose version they are of.
func readsBy(h api.History, t api.Tx, key int) map[int]int {
	reads := map[int]int{}
	for _, o := range t.Ops {
		if !o.Read || o.Key != key || o.Tx == t.Id {
			continue
		}
		of, is := history.Find(h, o.Tx)
		if o.Tx == 0 || is && of.Done && txn.Writes(of, key) == o.Nth {
			reads[o.Tx]++
		}
	}
	return reads
}

func reasonsBy(h api.History, e api.Edge) int {
	a, isA := history.Find(h, e.From)
	b, isB := history.Find(h, e.To)
	if !isA || !isB || !a.Done || !b.Done || a.Id == b.Id {
		return 0
	}
	n := 0
	switch e.Kind {
	case api.WW:
		if nextBy(h, a.Id, e.Key) == b.Id {
			n++
		}
	case api.WR:
		n = readsBy(h, b, e.Key)[a.Id]
	case api.RW:
		for of, reads := range readsBy(h, a, e.Key) {
			if nextBy(h, of, e.Key) == b.Id {
				n += reads
			}
		}
	}
	return n
}

// eachEdge goes in order through all that may be edges, and some that can't.
func eachEdge(look func(e api.Edge)) {
	for from := -1; from <= 9; from++ {
		for kind := 0; kind <= api.KindCount; kind++ {
			for key := -1; key <= 9; key++ {
				for to := -1; to <= 9; to++ {
					look(api.Edge{From: from, To: to, Kind: kind, Key: key})
				}
			}
		}
	}
}

func edgesBy(h api.History) []api.Heavy {
	var l []api.Heavy
	if !history.Right(h) {
		return nil
	}
	eachEdge(func(e api.Edge) {
		if n := reasonsBy(h, e); n > 0 {
			l = append(l, api.Heavy{Edge: e, Count: n})
		}
	})
	return l
}

// want looks by all calls at a history of which these are meant to be the edges.
func want(t *testing.T, h api.History, l []api.Heavy) {
	t.Helper()
	was := sample.Copy(h)
	if got := dsg.Edges(h); !slices.Equal(got, l) {
		t.Fatalf("of %s: Edges: %v, want %v", sample.Text(h), got, l)
	}
	for _, key := range []int{math.MinInt, -1, 0, 1, 2, 3, 4, 5, 6, 7, 8, 9, 1048575, 1048576, math.MaxInt} {
		of := slices.DeleteFunc(slices.Clone(l), func(x api.Heavy) bool { return x.Edge.Key != key })
		if got := dsg.Of(h, key); !slices.Equal(got, of) {
			t.Fatalf("of %s: Of %d: %v, want %v", sample.Text(h), key, got, of)
		}
	}
	for _, x := range l {
		if got := dsg.Count(h, x.Edge); got != x.Count {
			t.Fatalf("of %s: Count of %v: %d, want %d", sample.Text(h), x.Edge, got, x.Count)
		}
	}
	if !history.Same(h, was) {
		t.Fatalf("%s became %s", sample.Text(was), sample.Text(h))
	}
}

// wantNone looks at the counts of all that is no edge.
func wantNone(t *testing.T, h api.History, l []api.Heavy) {
	t.Helper()
	is := map[api.Edge]bool{}
	for _, x := range l {
		is[x.Edge] = true
	}
	eachEdge(func(e api.Edge) {
		if n := dsg.Count(h, e); !is[e] && n != 0 {
			t.Fatalf("of %s: Count of %v: %d", sample.Text(h), e, n)
		}
	})
	for _, odd := range []int{math.MinInt, 1<<32 + 1, 1 << 62, math.MaxInt} {
		for _, e := range []api.Edge{{From: odd, To: 1, Kind: api.WW, Key: 1}, {From: 1, To: odd, Kind: api.WW, Key: 1}, {From: 1, To: 2, Kind: odd, Key: 1}, {From: 1, To: 2, Kind: api.WR, Key: odd}} {
			if n := dsg.Count(h, e); n != 0 {
				t.Fatalf("of %s: Count of %v: %d", sample.Text(h), e, n)
			}
		}
	}
}

func heavy(from, to, kind, key, count int) api.Heavy {
	return api.Heavy{Edge: api.Edge{From: from, To: to, Kind: kind, Key: key}, Count: count}
}

// The example of the chapter.
func TestExample(t *testing.T) {
	h := sample.History("1 c w5; 2 c w5 r5@1.1; 3 c r5@0 r5@0; 5: 1 2")
	want(t, h, []api.Heavy{heavy(1, 2, api.WW, 5, 1), heavy(1, 2, api.WR, 5, 1), heavy(3, 1, api.RW, 5, 2)})
}

// 16.1

func TestWW(t *testing.T) {
	h := sample.History("1 c w1 w2; 2 c w1 w1; 3 c w1 w2; 4 a w1 w2; 5 c w3; 1: 3 1 2; 2: 1 3; 3: 5")
	want(t, h, []api.Heavy{heavy(1, 2, api.WW, 1, 1), heavy(1, 3, api.WW, 2, 1), heavy(3, 1, api.WW, 1, 1)})
}

func TestWR(t *testing.T) {
	for text, l := range map[string][]api.Heavy{
		// As often as it is read; the last version alone.
		"1 c w1; 2 c r1@1.1 r1@1.1 r1@1.1; 1: 1":    {heavy(1, 2, api.WR, 1, 3)},
		"1 c w1 w1; 2 c r1@1.1 r1@1.2 r1@1.2; 1: 1": {heavy(1, 2, api.WR, 1, 2)},
		"1 c w1 w2 w1; 2 c r1@1.1 r2@1.1; 1: 1; 2: 1": {
			heavy(1, 2, api.WR, 2, 1),
		},
		// None of one that is not Done, by one that is not, or of what is its own.
		"1 a w1; 2 c r1@1.1":                          nil,
		"1 c w1; 2 a r1@1.1; 1: 1":                    nil,
		"1 c w1 r1@1.1; 1: 1":                         nil,
		"1 a w1; 2 a r1@1.1; 3 c r1@1.1":              nil,
		"7 c w1; 2 c r1@7.1; 8 c r1@7.1":              nil,
		"2 c r1@7.1; 7 c w1; 8 c r1@7.1 r1@7.1; 1: 7": {heavy(7, 2, api.WR, 1, 1), heavy(7, 8, api.WR, 1, 2)},
	} {
		want(t, sample.History(text), l)
		wantNone(t, sample.History(text), l)
	}
}

func TestRW(t *testing.T) {
	for text, l := range map[string][]api.Heavy{
		// Of what was there at first to the first one, not to others, nor to itself.
		"1 c w1; 2 c r1@0 r1@0; 1: 1":                    {heavy(2, 1, api.RW, 1, 2)},
		"1 c w1; 2 c r1@0; 3 c w1; 1: 3 1":               {heavy(2, 3, api.RW, 1, 1), heavy(3, 1, api.WW, 1, 1)},
		"1 c r1@0 w1; 1: 1":                              nil,
		"1 c r1@0 w1; 2 c w1; 1: 1 2":                    {heavy(1, 2, api.WW, 1, 1)},
		"1 c r1@0 w1; 2 c w1; 1: 2 1":                    {heavy(1, 2, api.RW, 1, 1), heavy(2, 1, api.WW, 1, 1)},
		"1 c r1@0; 2 c r2@0":                             nil,
		"1 a r1@0; 2 c w1; 1: 2":                         nil,
		"1 c r1@0; 2 a w1":                               nil,
		"1 c r1@0 r2@0; 2 c w1 w2; 3 c w2; 1: 2; 2: 3 2": {heavy(1, 2, api.RW, 1, 1), heavy(1, 3, api.RW, 2, 1), heavy(3, 2, api.WW, 2, 1)},
		// Of another one's last version; behind the last one there is none.
		"1 c w1; 2 c r1@1.1; 3 c w1; 1: 1 3":      {heavy(1, 3, api.WW, 1, 1), heavy(1, 2, api.WR, 1, 1), heavy(2, 3, api.RW, 1, 1)},
		"1 c w1; 2 c r1@1.1; 3 c w1; 1: 3 1":      {heavy(1, 2, api.WR, 1, 1), heavy(3, 1, api.WW, 1, 1)},
		"1 c w1 w1; 2 c r1@1.1; 3 c w1; 1: 1 3":   {heavy(1, 3, api.WW, 1, 1)},
		"1 a w1; 2 c r1@1.1; 3 c w1; 1: 3":        nil,
		"1 c w1; 2 c r1@1.1 w1; 1: 1 2":           {heavy(1, 2, api.WW, 1, 1), heavy(1, 2, api.WR, 1, 1)},
		"1 c w1; 2 c r1@1.1 w1; 3 c w1; 1: 1 3 2": {heavy(1, 3, api.WW, 1, 1), heavy(1, 2, api.WR, 1, 1), heavy(2, 3, api.RW, 1, 1), heavy(3, 2, api.WW, 1, 1)},
		// Its own version, last or not, is no reason.
		"1 c w1 r1@1.1; 2 c w1; 1: 1 2": {heavy(1, 2, api.WW, 1, 1)},
		// Two versions that come to one edge.
		"1 c r1@0 r1@3.1; 2 c w1; 3 a w1; 1: 2": {heavy(1, 2, api.RW, 1, 1)},
	} {
		want(t, sample.History(text), l)
		wantNone(t, sample.History(text), l)
	}
}

func TestOfNothing(t *testing.T) {
	for _, h := range []api.History{{}, {Txs: []api.Tx{}, Orders: []api.Order{}}, sample.History("1 c; 2 a w1; 3 c r1@0")} {
		want(t, h, nil)
		wantNone(t, h, nil)
	}
}

// TestOfWrong has histories that are not right, each for another reason, and that would have edges else.
func TestOfWrong(t *testing.T) {
	for _, text := range []string{
		"1 c w1; 2 c w1 r1@1.1; 1: 1", "1 c w1; 2 c w1 r1@1.1", "1 c w1; 2 c r1@1.1 r1@1.2; 1: 1", "2 c r1@1.1; 1 c w1; 1: 1", "1 c w1; 1 c w1; 2 c r1@1.1; 1: 1",
		"1 c w1; 2 c w1; 1: 1 2; 1: 1 2", "1 c w1; 2 c w1; 1: 1 2 1", "1 c w1; 2 c w1; 1: 1 2; 2: 1", "1 c w1; 2 c w1; 1: 1 2; 2:", "1 c w1; 2 c w1 w2; 2: 2; 1: 1 2", "1 a w1; 2 c w1; 1: 1 2",
		"0 c w1; 2 c w1; 1: 0 2", "1 c w1; 2 c w1 r1@2.2; 1: 1 2", "1 c w1; 2 c w1; 3 a r2@9.1; 1: 1 2", "1 c w1; 2 c w1; 3 a r1@3.1; 1: 1 2", "1 c w1; 2 c w1; 1048576 a; 1: 1 2", "1: 1 2",
	} {
		h := sample.History(text)
		if history.Right(h) {
			t.Fatalf("%s is right", text)
		}
		want(t, h, nil)
		wantNone(t, h, nil)
	}
	h := sample.History("1 c w1; 2 c w1; 3 a; 1: 1 2")
	for id := 4; len(h.Txs) <= api.MaxTxs; id++ {
		h.Txs = append(h.Txs, api.Tx{Id: id})
	}
	if l := dsg.Edges(h); len(l) != 0 {
		t.Errorf("of too many: %v", l)
	}
	h.Txs = h.Txs[:api.MaxTxs]
	if l := dsg.Edges(h); !slices.Equal(l, []api.Heavy{heavy(1, 2, api.WW, 1, 1)}) {
		t.Errorf("of as many as may be: %v", l)
	}
}

func TestPlain(t *testing.T) {
	a, b := heavy(1, 2, api.WW, 5, 1), heavy(-3, math.MaxInt, 9, 0, -7)
	for _, l := range [][]api.Heavy{nil, {}, {a}, {b}, {a, b}, {b, a}, {a, b, a, a}, {{}, b, {}}} {
		was := slices.Clone(l)
		got := dsg.Plain(l)
		if len(got) != len(l) || !slices.Equal(l, was) {
			t.Fatalf("of %v: %v", was, got)
		}
		for i, x := range l {
			if got[i] != x.Edge {
				t.Fatalf("of %v: %v", l, got)
			}
		}
	}
}

func TestOfTheGreatestNumbers(t *testing.T) {
	h := sample.History("1048573 c r1048575@0; 1048574 c w1048575; 1048575 c w1048575 r1048575@1048574.1; 1048575: 1048574 1048575")
	const id = 1048573
	l := []api.Heavy{heavy(id, id+1, api.RW, 1048575, 1), heavy(id+1, id+2, api.WW, 1048575, 1), heavy(id+1, id+2, api.WR, 1048575, 1)}
	want(t, h, l)
	many := api.Tx{Id: 2, Done: true}
	for range api.MaxOps {
		many.Ops = append(many.Ops, api.Op{Read: true, Key: 1})
	}
	h = api.History{Txs: []api.Tx{{Id: 1, Done: true, Ops: []api.Op{{Key: 1}}}, many}, Orders: []api.Order{{Key: 1, Txs: []int{1}}}}
	want(t, h, []api.Heavy{heavy(2, 1, api.RW, 1, 4095)})
}

// chain has each transaction that may be write two keys, and read what the one ahead of it wrote of the one and what was there at first of the other; the orders are of rising ids, and of falling ones.
func chain() api.History {
	h := api.History{Orders: []api.Order{{Key: 1}, {Key: 2}}}
	for id := 1; id <= api.MaxTxs; id++ {
		ops := []api.Op{{Key: 1}, {Key: 2}, {Read: true, Key: 2}}
		if id > 1 {
			ops = append(ops, api.Op{Read: true, Key: 1, Tx: id - 1, Nth: 1})
		}
		h.Txs = append(h.Txs, api.Tx{Id: id, Done: true, Ops: ops})
		h.Orders[0].Txs = append(h.Orders[0].Txs, id)
		h.Orders[1].Txs = append(h.Orders[1].Txs, api.MaxTxs+1-id)
	}
	return h
}

func TestOfMany(t *testing.T) {
	const n = api.MaxTxs
	var l []api.Heavy
	for id := 1; id <= n; id++ {
		if id < n {
			l = append(l, heavy(id, id+1, api.WW, 1, 1), heavy(id, id+1, api.WR, 1, 1), heavy(id, n, api.RW, 2, 1))
		}
		if id > 1 {
			l = append(l, heavy(id, id-1, api.WW, 2, 1))
		}
	}
	slices.SortFunc(l, func(a, b api.Heavy) int {
		if pack.Less(a.Edge, b.Edge) {
			return -1
		}
		return 1
	})
	h := chain()
	if got := dsg.Edges(h); !slices.Equal(got, l) {
		t.Fatalf("Edges: %d, want %d", len(got), len(l))
	}
	of := slices.DeleteFunc(slices.Clone(l), func(x api.Heavy) bool { return x.Edge.Key != 2 })
	if got := dsg.Of(h, 2); !slices.Equal(got, of) {
		t.Fatalf("Of: %d, want %d", len(got), len(of))
	}
	for i := 0; i < len(l); i += 997 {
		if got := dsg.Count(h, l[i].Edge); got != l[i].Count {
			t.Fatalf("Count of %v: %d", l[i], got)
		}
	}
}

// eachDrawn goes through right histories.
func eachDrawn(seed int64, look func(h api.History, from *rand.Rand)) {
	from := rand.New(rand.NewSource(seed))
	for range 1000 {
		look(sample.DrawHistory(from.Intn), from)
	}
}

func TestOfAny(t *testing.T) {
	met := map[int]int{}
	wrong := 0
	eachDrawn(161, func(h api.History, from *rand.Rand) {
		l := edgesBy(h)
		want(t, h, l)
		if from.Intn(20) == 0 {
			wantNone(t, h, l)
		}
		for _, x := range l {
			met[x.Edge.Kind]++
			if x.Count > 1 {
				met[-x.Edge.Kind]++
			}
		}
		other := sample.Now(sample.DrawOther(api.Delta{Now: h.Txs, New: h.Orders}, from.Intn))
		if !history.Right(other) {
			wrong++
		}
		want(t, other, edgesBy(other))
	})
	if met[api.WW] < 500 || met[api.WR] < 500 || met[api.RW] < 500 || met[-api.WR] < 50 || met[-api.RW] < 50 || wrong < 500 {
		t.Errorf("some are too rare: %v; %d are wrong", met, wrong)
	}
}

// 16.2

func TestReasons(t *testing.T) {
	eachDrawn(162, func(h api.History, from *rand.Rand) {
		reads, nexts := map[int]int{}, map[int]int{}
		for _, x := range dsg.Edges(h) {
			a, _ := history.Find(h, x.Edge.From)
			b, _ := history.Find(h, x.Edge.To)
			if !a.Done || !b.Done || a.Id == b.Id {
				t.Fatalf("of %s: the edge %v", sample.Text(h), x)
			}
			switch x.Edge.Kind {
			case api.WR:
				reads[b.Id] += x.Count
			case api.WW:
				nexts[x.Edge.Key] += x.Count
			}
		}
		for _, one := range h.Txs {
			n := 0
			for key := 1; key <= 3 && one.Done; key++ {
				for of, count := range readsBy(h, one, key) {
					if of != 0 {
						n += count
					}
				}
			}
			if reads[one.Id] != n {
				t.Fatalf("of %s: %d reads of others by %d, and WR edges of %d", sample.Text(h), n, one.Id, reads[one.Id])
			}
		}
		for _, o := range h.Orders {
			if nexts[o.Key] != len(o.Txs)-1 {
				t.Fatalf("of %s: %d WW edges of key %d", sample.Text(h), nexts[o.Key], o.Key)
			}
		}
	})
}

// Memory

func TestAnswersAreNewMemory(t *testing.T) {
	h := sample.History("1 c w5; 2 c w5 r5@1.1; 3 c r5@0 r5@0; 5: 1 2")
	l := dsg.Edges(h)
	for _, got := range [][]api.Heavy{dsg.Edges(h), dsg.Of(h, 5)} {
		for i := range got {
			got[i] = api.Heavy{}
		}
	}
	plain := dsg.Plain(l)
	for i := range plain {
		plain[i] = api.Edge{}
	}
	want(t, h, []api.Heavy{heavy(1, 2, api.WW, 5, 1), heavy(1, 2, api.WR, 5, 1), heavy(3, 1, api.RW, 5, 2)})
	want(t, h, l)
}
