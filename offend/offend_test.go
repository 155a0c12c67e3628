package offend_test

import (
	"math"
	"math/rand"
	"slices"
	"testing"

	"tenter/api"
	"tenter/history"
	"tenter/offend"
	"tenter/sample"
	"tenter/txn"
)

// What the chapter says, once more, read by read.

// offendsBy tells whether the read at a place of a transaction may not be, by a phenomenon.
func offendsBy(h api.History, phen int, t api.Tx, place int) bool {
	o := t.Ops[place]
	if !t.Done || !o.Read || o.Tx == 0 || o.Tx == t.Id {
		return false
	}
	other, _ := history.Find(h, o.Tx)
	return phen == 2 && !other.Done || phen == 3 && o.Nth < txn.Writes(other, o.Key)
}

func readsBy(h api.History, phen int) []api.Bad {
	var l []api.Bad
	if !history.Right(h) {
		return nil
	}
	for _, t := range h.Txs {
		for place, o := range t.Ops {
			if offendsBy(h, phen, t, place) {
				l = append(l, api.Bad{Tx: t.Id, Place: place, Of: api.Version{Tx: o.Tx, Key: o.Key, Nth: o.Nth}})
			}
		}
	}
	return l
}

func bad(tx, place, of, key, nth int) api.Bad {
	return api.Bad{Tx: tx, Place: place, Of: api.Version{Tx: of, Key: key, Nth: nth}}
}

// noPhens are neither G1a nor G1b.
func noPhens() []int {
	return []int{0, api.G0, api.G1c, api.G2, api.PhenCount, -1, -2, -3, math.MinInt, math.MaxInt, 1<<32 + 2, 1<<32 + 3}
}

// want looks by all calls at a history of which these are meant to be the reads, by a phenomenon.
func want(t *testing.T, h api.History, phen int, l []api.Bad) {
	t.Helper()
	was := sample.Copy(h)
	if got := offend.Of(h, phen); !slices.Equal(got, l) {
		t.Fatalf("of %s: Of %d: %v, want %v", sample.Text(h), phen, got, l)
	}
	for _, key := range []int{math.MinInt, -1, 0, 1, 2, 3, 4, 5, 6, 1048575, 1048576, 1<<32 + 1, math.MaxInt} {
		of := slices.DeleteFunc(slices.Clone(l), func(b api.Bad) bool { return b.Of.Key != key })
		if got := offend.OfKey(h, phen, key); !slices.Equal(got, of) {
			t.Fatalf("of %s: OfKey %d, %d: %v, want %v", sample.Text(h), phen, key, got, of)
		}
	}
	for _, b := range l {
		if !offend.Is(h, phen, b) {
			t.Fatalf("of %s: Is %d of %v: false", sample.Text(h), phen, b)
		}
	}
	if !history.Same(h, was) {
		t.Fatalf("%s became %s", sample.Text(was), sample.Text(h))
	}
}

// wantBoth looks at both phenomena, and at the others, of which there is nothing.
func wantBoth(t *testing.T, h api.History, aborted, between []api.Bad) {
	t.Helper()
	want(t, h, api.G1a, aborted)
	want(t, h, api.G1b, between)
	for _, phen := range noPhens() {
		want(t, h, phen, nil)
		for _, b := range slices.Concat(aborted, between, []api.Bad{{}}) {
			if offend.Is(h, phen, b) {
				t.Fatalf("of %s: Is %d of %v: true", sample.Text(h), phen, b)
			}
		}
	}
}

// oddNumbers are around those that may be, and at the ends of all.
func oddNumbers() []int {
	return []int{math.MinInt, -1, 0, 4096, 1048576, 1 << 32, 1<<32 + 1, math.MaxInt}
}

// wantNone looks at what is not among these, nearly and far off.
func wantNone(t *testing.T, h api.History, phen int, l []api.Bad) {
	t.Helper()
	for _, b := range append(slices.Clone(l), bad(1, 0, 2, 1, 1), api.Bad{}) {
		for _, step := range []int{-1, 1, 2, 1 << 32, -1 << 32} {
			for _, other := range []api.Bad{
				bad(b.Tx+step, b.Place, b.Of.Tx, b.Of.Key, b.Of.Nth), bad(b.Tx, b.Place+step, b.Of.Tx, b.Of.Key, b.Of.Nth), bad(b.Tx, b.Place, b.Of.Tx+step, b.Of.Key, b.Of.Nth),
				bad(b.Tx, b.Place, b.Of.Tx, b.Of.Key+step, b.Of.Nth), bad(b.Tx, b.Place, b.Of.Tx, b.Of.Key, b.Of.Nth+step), {Tx: b.Tx, Place: b.Place}, {Of: b.Of},
			} {
				if got := offend.Is(h, phen, other); got != slices.Contains(l, other) {
					t.Fatalf("of %s: Is %d of %v: %v", sample.Text(h), phen, other, got)
				}
			}
		}
	}
	for _, odd := range oddNumbers() {
		for _, b := range []api.Bad{bad(odd, 0, 1, 1, 1), bad(1, odd, 2, 1, 1), bad(1, 0, odd, 1, 1), bad(1, 0, 2, odd, 1), bad(1, 0, 2, 1, odd), bad(odd, odd, odd, odd, odd)} {
			if got := offend.Is(h, phen, b); got != slices.Contains(l, b) {
				t.Fatalf("of %s: Is %d of %v: %v", sample.Text(h), phen, b, got)
			}
		}
	}
}

// wantAll looks at a history from all sides.
func wantAll(t *testing.T, h api.History, aborted, between []api.Bad) {
	t.Helper()
	wantBoth(t, h, aborted, between)
	wantNone(t, h, api.G1a, aborted)
	wantNone(t, h, api.G1b, between)
}

// The example of the chapter.
func TestExample(t *testing.T) {
	b := []api.Bad{bad(2, 0, 1, 5, 1)}
	wantAll(t, sample.History("1 a w5 w5; 2 c r5@1.1"), b, b)
}

// 18.1

func TestAborted(t *testing.T) {
	for text, l := range map[string][]api.Bad{
		"1 a w5; 2 c r5@1.1":                               {bad(2, 0, 1, 5, 1)},
		"1 a w5; 2 c w4 r5@1.1 r4@2.1 r5@1.1; 4: 2":        {bad(2, 1, 1, 5, 1), bad(2, 3, 1, 5, 1)},
		"2 c r5@3.1; 3 a w5; 4 c r5@3.1":                   {bad(2, 0, 3, 5, 1), bad(4, 0, 3, 5, 1)},
		"1 a w1 w2; 2 a w2; 3 c r2@2.1 r1@1.1 r2@1.1 r1@0": {bad(3, 0, 2, 2, 1), bad(3, 1, 1, 1, 1), bad(3, 2, 1, 2, 1)},
		// Not of what is Done, by what is not, of what is its own, of what was there at first; nor a write.
		"1 c w5; 2 c r5@1.1; 5: 1":            nil,
		"1 a w5; 2 a r5@1.1":                  nil,
		"1 a w5 r5@1.1":                       nil,
		"1 a; 2 c r5@0":                       nil,
		"1 a w5; 2 c w5; 5: 2":                nil,
		"1 c w5 r5@1.1; 2 a w5 r5@1.1; 5: 1":  nil,
		"1 c w5; 2 a w5 w6; 3 c r5@1.1; 5: 1": nil,
	} {
		wantAll(t, sample.History(text), l, nil)
	}
}

func TestInBetween(t *testing.T) {
	for text, l := range map[string][]api.Bad{
		"1 c w5 w5; 2 c r5@1.1; 5: 1":                                  {bad(2, 0, 1, 5, 1)},
		"1 c w5 w4 w5 w5; 2 c r5@1.3 r5@1.2 r5@1.1 r4@1.1; 4: 1; 5: 1": {bad(2, 1, 1, 5, 2), bad(2, 2, 1, 5, 1)},
		"1 c r5@3.1; 3 c w5 w5; 4 c w5 r5@3.1; 5: 4 3":                 {bad(1, 0, 3, 5, 1), bad(4, 1, 3, 5, 1)},
		"1 c r1@2.1 r2@2.1; 2 c w1 w2 w1 w2; 1: 2; 2: 2":               {bad(1, 0, 2, 1, 1), bad(1, 1, 2, 2, 1)},
		// Not of the last one, by what is not Done, of what is its own, of what was there at first; other keys, and other writers, are nothing to it.
		"1 c w5; 2 c r5@1.1; 5: 1":                       nil,
		"1 c w5 w5; 2 c r5@1.2; 5: 1":                    nil,
		"1 c w5 w5; 2 a r5@1.1; 5: 1":                    nil,
		"1 c w5 r5@1.1 w5 r5@1.1; 5: 1":                  nil,
		"1 c w5 w5; 2 c r5@0; 5: 1":                      nil,
		"1 c w5 w6; 2 c r5@1.1; 3 c w5 w5; 5: 1 3; 6: 1": nil,
		"1 c w5; 2 c w5 r5@1.1 r5@2.1 w5; 5: 1 2":        nil,
	} {
		wantAll(t, sample.History(text), nil, l)
	}
}

func TestBothAtOnce(t *testing.T) {
	wantAll(t, sample.History("1 a w5 w5 w6; 2 c w6 w6; 3 c r6@2.1 r5@1.2 r5@1.1 r6@1.1 r6@2.2; 4 a r5@1.1 r6@2.1; 6: 2"),
		[]api.Bad{bad(3, 1, 1, 5, 2), bad(3, 2, 1, 5, 1), bad(3, 3, 1, 6, 1)}, []api.Bad{bad(3, 0, 2, 6, 1), bad(3, 2, 1, 5, 1)})
}

func TestOfNothing(t *testing.T) {
	for _, h := range []api.History{{}, {Txs: []api.Tx{}, Orders: []api.Order{}}, sample.History("1 c; 2 a w1; 3 c r1@0")} {
		wantAll(t, h, nil, nil)
	}
}

// TestOfWrong has histories that are not right, each for another reason, and that would have reads that may not be else.
func TestOfWrong(t *testing.T) {
	for _, text := range []string{
		"1 a w1 w1; 2 c w1 r1@1.1", "1 a w1 w1; 2 c r1@1.1 r1@1.3", "2 c r1@1.1; 1 a w1 w1", "1 a w1 w1; 1 a w1; 2 c r1@1.1", "1 a w1 w1; 2 c r1@1.1; 1: 1", "1 a w1 w1; 2 c r1@1.1; 2:",
		"1 a w1 w1; 2 c r1@1.1; 0 a", "0 a w1; 1 a w1 w1; 2 c r1@1.1", "1 a w1 w1; 2 c r1@1.1 r1@2.1", "1 a w1 w1; 2 c r1@1.1; 1048576 a", "1 a w1 w1; 2 c r1@1.1; 3 a r1@9.1", "1 a w1 w1; 2 c r1@1.1; 3 c w1; 1: 3 3",
	} {
		h := sample.History(text)
		if history.Right(h) {
			t.Fatalf("%s is right", text)
		}
		wantAll(t, h, nil, nil)
	}
	h := sample.History("1 a w1 w1; 2 c r1@1.1")
	b := []api.Bad{bad(2, 0, 1, 1, 1)}
	for id := 3; len(h.Txs) < api.MaxTxs; id++ {
		h.Txs = append(h.Txs, api.Tx{Id: id})
	}
	want(t, h, api.G1a, b)
	want(t, h, api.G1b, b)
	h.Txs = append(h.Txs, api.Tx{Id: 5000})
	want(t, h, api.G1a, nil)
	want(t, h, api.G1b, nil)
}

func TestOfTheGreatestNumbers(t *testing.T) {
	const key, id = 1048575, 1048574
	long := api.Tx{Id: id, Ops: slices.Repeat([]api.Op{{Key: key}}, api.MaxOps)}
	other := api.Tx{Id: id + 1, Done: true, Ops: slices.Repeat([]api.Op{{Read: true, Key: key}}, api.MaxOps)}
	other.Ops[api.MaxOps-2] = api.Op{Read: true, Key: key, Tx: id, Nth: api.MaxOps - 1}
	other.Ops[api.MaxOps-1] = api.Op{Read: true, Key: key, Tx: id, Nth: api.MaxOps}
	b := []api.Bad{bad(id+1, 4093, id, key, 4094), bad(id+1, 4094, id, key, 4095)}
	wantAll(t, api.History{Txs: []api.Tx{long, other}}, b, b[:1])
}

// A history of as many transactions as may be, each of which reads all versions of the one ahead of it, but for those that are not Done.
func TestOfMany(t *testing.T) {
	const writes = 60
	var h api.History
	var aborted, between []api.Bad
	for id := 1; id <= api.MaxTxs; id++ {
		one := api.Tx{Id: id, Done: id%2 == 0}
		for nth := 1; one.Done && nth <= writes; nth++ {
			one.Ops = append(one.Ops, api.Op{Read: true, Key: id - 1, Tx: id - 1, Nth: nth})
			aborted = append(aborted, bad(id, nth-1, id-1, id-1, nth))
			if nth < writes {
				between = append(between, bad(id, nth-1, id-1, id-1, nth))
			}
		}
		for range writes {
			if !one.Done {
				one.Ops = append(one.Ops, api.Op{Key: id})
			}
		}
		h.Txs = append(h.Txs, one)
	}
	if got := offend.Of(h, api.G1a); !slices.Equal(got, aborted) {
		t.Errorf("Of G1a: %d, want %d", len(got), len(aborted))
	}
	if got := offend.Of(h, api.G1b); !slices.Equal(got, between) {
		t.Errorf("Of G1b: %d, want %d", len(got), len(between))
	}
	if got := offend.OfKey(h, api.G1b, 77); !slices.Equal(got, between[38*(writes-1):39*(writes-1)]) {
		t.Errorf("OfKey: %v", got)
	}
}

// eachDrawn goes through right histories.
func eachDrawn(seed int64, look func(h api.History, from *rand.Rand)) {
	from := rand.New(rand.NewSource(seed))
	for range 1500 {
		look(sample.DrawHistory(from.Intn), from)
	}
}

func TestOfAny(t *testing.T) {
	aborted, between, both, wrong := 0, 0, 0, 0
	eachDrawn(181, func(h api.History, from *rand.Rand) {
		a, b := readsBy(h, api.G1a), readsBy(h, api.G1b)
		aborted, between = aborted+len(a), between+len(b)
		for _, x := range a {
			if slices.Contains(b, x) {
				both++
			}
		}
		wantBoth(t, h, a, b)
		if from.Intn(10) == 0 {
			wantAll(t, h, a, b)
		}
		other := sample.Now(sample.DrawOther(api.Delta{Now: h.Txs, New: h.Orders}, from.Intn))
		if !history.Right(other) {
			wrong++
		}
		wantBoth(t, other, readsBy(other, api.G1a), readsBy(other, api.G1b))
	})
	if aborted < 300 || between < 300 || both < 50 || wrong < 500 {
		t.Errorf("some are too rare: %d, %d, %d; %d are wrong", aborted, between, both, wrong)
	}
}

// Less

// anyReads have any numbers, often the same ones.
func anyReads(seed int64, n int) []api.Bad {
	from := rand.New(rand.NewSource(seed))
	numbers := append(oddNumbers(), 1, 2, 3)
	one := func() int { return numbers[from.Intn(len(numbers))] }
	base := bad(one(), one(), one(), one(), one())
	l := []api.Bad{{}, base}
	for range n {
		b := bad(one(), one(), one(), one(), one())
		// The first parts are often the same, so that the later ones decide.
		switch from.Intn(5) {
		case 0:
			b.Tx = base.Tx
		case 1:
			b.Tx, b.Place = base.Tx, base.Place
		case 2:
			b.Tx, b.Place, b.Of.Tx = base.Tx, base.Place, base.Of.Tx
		case 3:
			b = bad(base.Tx, base.Place, base.Of.Tx, base.Of.Key, b.Of.Nth)
		}
		l = append(l, b)
	}
	return l
}

// ahead is the order of the chapter, part by part.
func ahead(a, b api.Bad) bool {
	switch {
	case a.Tx != b.Tx:
		return a.Tx < b.Tx
	case a.Place != b.Place:
		return a.Place < b.Place
	case a.Of.Tx != b.Of.Tx:
		return a.Of.Tx < b.Of.Tx
	case a.Of.Key != b.Of.Key:
		return a.Of.Key < b.Of.Key
	}
	return a.Of.Nth < b.Of.Nth
}

func TestLess(t *testing.T) {
	l := []api.Bad{
		bad(math.MinInt, 9, 9, 9, 9), bad(-1, 9, 9, 9, 9), {}, bad(1, -1, 9, 9, 9), bad(1, 0, 0, 9, 9), bad(1, 0, 1, 0, 9), bad(1, 0, 1, 1, 0), bad(1, 0, 1, 1, 1), bad(1, 0, 1, 2, 0), bad(1, 0, 2, 0, 0),
		bad(1, 1, 0, 0, 0), bad(1, math.MaxInt, 0, 0, 0), bad(2, 0, 0, 0, 0), bad(1<<32+1, 0, 0, 0, 0), bad(math.MaxInt, math.MinInt, 0, 0, 0),
	}
	for i, a := range l {
		for k, b := range l {
			if got := offend.Less(a, b); got != (i < k) {
				t.Errorf("Less of %v and %v: %v", a, b, got)
			}
		}
	}
}

func TestLessOfAny(t *testing.T) {
	l := anyReads(182, 300)
	same := 0
	for _, a := range l {
		for _, b := range l {
			if got := offend.Less(a, b); got != ahead(a, b) {
				t.Fatalf("Less of %v and %v: %v", a, b, got)
			}
			if a.Tx == b.Tx && a.Place == b.Place && a.Of.Tx == b.Of.Tx && a.Of.Key == b.Of.Key && a != b {
				same++
			}
		}
	}
	if same < 500 {
		t.Errorf("just %d are told apart by their last part alone", same)
	}
}

// 18.2

// installed tells whether a version is the last one of a transaction that is Done.
func installed(h api.History, v api.Version) bool {
	of, is := history.Find(h, v.Tx)
	return is && of.Done && txn.Writes(of, v.Key) == v.Nth
}

func TestBothOneNone(t *testing.T) {
	met := map[[2]bool]int{}
	eachDrawn(183, func(h api.History, from *rand.Rand) {
		for _, one := range h.Txs {
			for place, o := range one.Ops {
				if !o.Read || o.Tx == 0 || o.Tx == one.Id {
					continue
				}
				b := bad(one.Id, place, o.Tx, o.Key, o.Nth)
				is := [2]bool{offend.Is(h, api.G1a, b), offend.Is(h, api.G1b, b)}
				met[is]++
				if (is == [2]bool{}) != (installed(h, b.Of) || !one.Done) {
					t.Fatalf("of %s: %v is %v", sample.Text(h), b, is)
				}
			}
		}
	})
	for _, is := range [][2]bool{{}, {true, false}, {false, true}, {true, true}} {
		if met[is] < 50 {
			t.Errorf("%v is too rare: %v", is, met)
		}
	}
}

// Memory

func TestAnswersAreNewMemory(t *testing.T) {
	h := sample.History("1 a w5 w5; 2 c r5@1.1 r5@1.2; 3 c w5 w5; 4 c r5@3.1; 5: 3")
	aborted, between := []api.Bad{bad(2, 0, 1, 5, 1), bad(2, 1, 1, 5, 2)}, []api.Bad{bad(2, 0, 1, 5, 1), bad(4, 0, 3, 5, 1)}
	for _, l := range [][]api.Bad{offend.Of(h, api.G1a), offend.Of(h, api.G1b), offend.OfKey(h, api.G1a, 5), offend.OfKey(h, api.G1b, 5)} {
		for i := range l {
			l[i] = bad(9, 9, 9, 9, 9)
		}
		wantBoth(t, h, aborted, between)
	}
	l := offend.Of(h, api.G1a)
	sample.Spoil(h)
	if !slices.Equal(l, aborted) {
		t.Errorf("what is told shares memory with what was given: %v", l)
	}
}
