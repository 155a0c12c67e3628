package history_test

import (
	"math/rand"
	"testing"

	"tenter/api"
	"tenter/history"
	"tenter/sample"
	"tenter/txn"
)

// 12.1

func wantRight(t *testing.T, h api.History, want bool) {
	t.Helper()
	unchanged(t, h, func() {
		if got := history.Right(h); got != want {
			t.Errorf("Right of %s: %v", sample.Text(h), got)
		}
	})
}

func TestRight(t *testing.T) {
	for _, text := range []string{
		"", "1 a", "1 c", "1048575 c", "1 a w5", "1 c w5; 5: 1", "1 c r5@0", "1 c w5 w5 r5@1.2; 5: 1", "1 c w1048575; 1048575: 1",
		"1 c w5; 2 c w5 r5@1.1; 5: 1 2", "1 c w5; 2 c w5 r5@1.1; 5: 2 1", "1 c w5 r5@2.1; 2 c w5 r5@1.1; 5: 1 2", "1 a w5; 2 c r5@1.1", "1 a w5; 2 c w5; 5: 2",
		"3 c w5 w6; 7 c w6 w4; 4: 7; 5: 3; 6: 7 3", "1 a w5 w5; 2 a r5@1.2 r5@1.1", "1 a; 5 a; 9 a",
	} {
		wantRight(t, sample.History(text), true)
	}
}

func TestRightOfWrongTransactions(t *testing.T) {
	for _, text := range []string{
		"0 a", "1048576 a", "1 a; 1 a", "2 a; 1 a", "1 a; 3 a; 2 a", "1 c w5; 1 c w5; 5: 1", "1 c w5; 1 c w5; 5: 1 1",
		"1 a r5@1.1", "1 a r5@1.1 w5", "1 a w5 r5@1.2",
		"1 a r5@2.1", "1 a r5@2.1; 2 a", "1 a r5@2.1; 2 a w6", "1 a r5@2.2; 2 a w5", "1 c w5; 2 a r5@1.1 r5@1.2; 5: 1", "1 c w5; 2 a r6@1.1; 5: 1", "1 a w5; 3 a r5@2.1",
	} {
		wantRight(t, sample.History(text), false)
	}
	for _, x := range []api.Tx{
		{Id: -1}, {Id: 1, Ops: []api.Op{writeOf(0)}}, {Id: 1, Ops: []api.Op{readOf(5, 2, 0)}}, {Id: 1, Ops: []api.Op{readOf(5, 0, 1)}}, {Id: 1, Ops: []api.Op{{Key: 5, Tx: 2}}},
		{Id: 1, Ops: make([]api.Op, api.MaxOps+1)},
	} {
		wantRight(t, api.History{Txs: []api.Tx{x}}, false)
		wantRight(t, api.History{Txs: []api.Tx{x, sample.Tx("5 a")}}, false)
	}
}

func TestRightOfWrongOrders(t *testing.T) {
	for _, text := range []string{
		"1 c w5", "1 c w5; 6: 1", "1 c w5; 5:", "1 c w5; 5: 2", "1 c w5; 5: 1 1", "1 c w5; 5: 1; 6:", "1 c w5; 5: 1; 6: 1", "1 c w5; 5: 1; 5: 1", "1 c w5; 4:; 5: 1",
		"5:", "5: 1", "1 a; 5:", "1 a w5; 5:", "1 a w5; 5: 1", "1 c r5@0; 5: 1", "1 c; 0: 1", "1 c w5; 0: ; 5: 1",
		"1 c w5; 2 c w5; 5: 1", "1 c w5; 2 c w5; 5: 2", "1 c w5; 2 c w5; 5: 1 1", "1 c w5; 2 c w5; 5: 1 2 1", "1 c w5; 2 c w5; 5: 1 2 3", "1 c w5; 2 a w5; 5: 1 2", "1 c w5; 2 c; 5: 1 2",
		"1 c w5 w6; 5: 1", "1 c w5 w6; 6: 1", "1 c w5 w6; 6: 1; 5: 1", "1 c w5 w6; 5: 1; 5: 1", "1 c w5 w6; 5: 1; 7: 1",
	} {
		wantRight(t, sample.History(text), false)
	}
	wantRight(t, api.History{Orders: []api.Order{{Key: -5}}}, false)
}

// crowd is many transactions that do nothing.
func crowd(size int) api.History {
	h := api.History{}
	for i := range size {
		h.Txs = append(h.Txs, api.Tx{Id: i + 1})
	}
	return h
}

func TestRightOfMany(t *testing.T) {
	wantRight(t, crowd(api.MaxTxs), true)
	wantRight(t, crowd(api.MaxTxs+1), false)
	long := sample.History("1 c; 5: 1")
	for range api.MaxOps {
		long.Txs[0].Ops = append(long.Txs[0].Ops, writeOf(5))
	}
	long.Txs = append(long.Txs, api.Tx{Id: 2, Ops: []api.Op{readOf(5, 1, api.MaxNth)}})
	wantRight(t, long, true)
	long.Txs[0].Ops = long.Txs[0].Ops[1:]
	wantRight(t, long, false)
}

// TestRightOfHeavy needs calls that don't go through a transaction for each read of it.
func TestRightOfHeavy(t *testing.T) {
	h := sample.History("1 c; 5: 1")
	for range api.MaxOps {
		h.Txs[0].Ops = append(h.Txs[0].Ops, writeOf(5))
	}
	for id := 2; id <= 200; id++ {
		x := api.Tx{Id: id, Done: true}
		for i := range api.MaxOps {
			x.Ops = append(x.Ops, readOf(5, 1, i+1))
		}
		h.Txs = append(h.Txs, x)
	}
	wantRight(t, h, true)
	if got := history.Weight(h); got != 200*(api.MaxOps+1) {
		t.Errorf("Weight: %d", got)
	}
}

func TestRightOfAny(t *testing.T) {
	wrong := 0
	eachEdit(t, 121, 200, func(h api.History, e edit, from *rand.Rand) {
		wantRight(t, h, true)
		other := spoilt(h, from)
		want := rightBy(other)
		if !want {
			wrong++
		}
		wantRight(t, other, want)
	})
	if wrong < 3000 {
		t.Errorf("%d histories are not right: too few", wrong)
	}
}

func wantFound(t *testing.T, h api.History, id int) {
	t.Helper()
	at := findBy(h, id)
	var want api.Tx
	if at >= 0 {
		want = h.Txs[at]
	}
	unchanged(t, h, func() {
		if got, is := history.Find(h, id); is != (at >= 0) || !txn.Same(got, want) {
			t.Errorf("of %s: Find of %d: %v, %v", sample.Text(h), id, got, is)
		}
	})
}

func wantOrder(t *testing.T, h api.History, key int) {
	t.Helper()
	var want []int
	if at := findOrderBy(h, key); at >= 0 {
		want = h.Orders[at].Txs
	}
	unchanged(t, h, func() {
		if got := history.Order(h, key); !sameBy(api.History{Orders: []api.Order{{Txs: got}}}, api.History{Orders: []api.Order{{Txs: want}}}) {
			t.Errorf("of %s: Order of %d: %v", sample.Text(h), key, got)
		}
	})
}

func wantHas(t *testing.T, h api.History, v api.Version) {
	t.Helper()
	unchanged(t, h, func() {
		if got := history.Has(h, v); got != hasBy(h, v) {
			t.Errorf("of %s: Has of %v: %v", sample.Text(h), v, got)
		}
	})
}

func TestFindAndOrder(t *testing.T) {
	h := sample.History("2 c w5 r6@0; 4 a; 9 c w5 w6; 5: 9 2; 6: 9")
	x, is := history.Find(h, 2)
	if !is || txn.Text(x) != "2 c w5 r6@0" {
		t.Errorf("Find of 2: %v, %v", x, is)
	}
	if x, is := history.Find(h, 3); is || x.Id != 0 || x.Done || len(x.Ops) != 0 {
		t.Errorf("Find of 3: %v, %v", x, is)
	}
	for _, id := range []int{-1, 0, 1, 2, 3, 4, 9, 10, api.MaxId + 1} {
		wantFound(t, h, id)
		wantFound(t, api.History{}, id)
	}
	for key := -1; key < 10; key++ {
		wantOrder(t, h, key)
		wantOrder(t, api.History{}, key)
	}
	if l := history.Order(h, 5); len(l) != 2 || l[0] != 9 || l[1] != 2 {
		t.Errorf("Order of 5: %v", l)
	}
}

func TestTheFirstOneCounts(t *testing.T) {
	h := sample.History("4 c w5; 2 a w6; 4 a w5 w5 w6; 2 c; 7: 1; 6: 2 3; 7: 4; 6:")
	for id := range 6 {
		wantFound(t, h, id)
	}
	for key := range 9 {
		wantOrder(t, h, key)
	}
	if history.Has(h, api.Version{Tx: 4, Key: 5, Nth: 2}) || history.Has(h, api.Version{Tx: 4, Key: 6, Nth: 1}) || !history.Has(h, api.Version{Tx: 4, Key: 5, Nth: 1}) || !history.Has(h, api.Version{Tx: 2, Key: 6, Nth: 1}) {
		t.Errorf("another one than the first counts")
	}
}

func TestHas(t *testing.T) {
	h := sample.History("2 c w5 w5 r6@0; 4 a w6 w5; 5: 2")
	want := map[api.Version]bool{
		{Key: 1}: true, {Key: 5}: true, {Key: api.MaxKey}: true, {Key: 0}: false, {Key: -1}: false, {Key: api.MaxKey + 1}: false,
		{Key: 5, Nth: 1}: false, {Key: 5, Tx: 2}: false, {Key: 5, Nth: -1}: false, {Key: 5, Tx: 2, Nth: -1}: false,
		{Key: 5, Tx: 2, Nth: 1}: true, {Key: 5, Tx: 2, Nth: 2}: true, {Key: 5, Tx: 2, Nth: 3}: false,
		{Key: 6, Tx: 4, Nth: 1}: true, {Key: 6, Tx: 2, Nth: 1}: false, {Key: 6, Tx: 4, Nth: 2}: false, {Key: 7, Tx: 4, Nth: 1}: false, {Key: 5, Tx: 3, Nth: 1}: false,
	}
	for v, is := range want {
		if got := history.Has(h, v); got != is {
			t.Errorf("Has of %v: %v", v, got)
		}
	}
	if !history.Has(api.History{}, api.Version{Key: 5}) || history.Has(api.History{}, api.Version{Key: 5, Tx: 1, Nth: 1}) {
		t.Errorf("of nothing: another version is there than those of the first")
	}
	// A history by hand may have a transaction, or a key, of any number.
	hand := api.History{Txs: []api.Tx{{Id: 0, Ops: []api.Op{writeOf(-7)}}, {Id: -2, Ops: []api.Op{writeOf(0)}}}}
	for _, v := range []api.Version{{Key: -7, Nth: 1}, {Key: -7, Nth: 2}, {Key: -7}, {Key: 0, Tx: -2, Nth: 1}, {Key: 0, Tx: -2}, {Key: -7, Tx: -2, Nth: 1}} {
		wantHas(t, hand, v)
	}
}

func TestWeight(t *testing.T) {
	for text, want := range map[string]int{"": 0, "1 a": 1, "1 c w5 r5@0; 5: 1": 3, "1 c w5; 2 a; 3 c w6 w6 r5@1.1; 5: 1; 6: 3": 7, "2 a w5; 2 a w5 w5; 7: 1 2 3": 5} {
		h := sample.History(text)
		unchanged(t, h, func() {
			if got := history.Weight(h); got != want {
				t.Errorf("Weight of %s: %d", text, got)
			}
		})
	}
}

func TestSame(t *testing.T) {
	texts := []string{
		"", "1 a", "1 c", "2 a", "1 a; 2 a", "2 a; 1 a", "1 a; 1 a", "1 a w5", "1 a w6", "1 a w5 w5", "1 a r5@0", "1 c w5; 5: 1", "1 c w5; 5:", "1 c w5; 6: 1", "1 c w5", "5: 1", "5: 1 2", "5: 2 1", "5:", "5:; 5:", "5: 1; 6: 1", "6: 1; 5: 1",
	}
	for i, a := range texts {
		for k, b := range texts {
			if got := history.Same(sample.History(a), sample.History(b)); got != (i == k) {
				t.Errorf("Same of %q and %q: %v", a, b, got)
			}
		}
	}
	if !history.Same(api.History{}, api.History{Txs: []api.Tx{}, Orders: []api.Order{}}) {
		t.Errorf("nothing, nil or not, is not the same")
	}
}

func TestLooksAtAny(t *testing.T) {
	eachEdit(t, 122, 40, func(h api.History, e edit, from *rand.Rand) {
		other := spoilt(h, from)
		for i := -1; i < 9; i++ {
			wantFound(t, other, i)
			wantOrder(t, other, i)
			wantHas(t, other, api.Version{Tx: from.Intn(8), Key: i, Nth: from.Intn(4) - 1})
		}
		if got := history.Same(h, other); got != sameBy(h, other) {
			t.Errorf("Same of %s and %s: %v", sample.Text(h), sample.Text(other), got)
		}
	})
}

func TestWhatIsFoundIsNewMemory(t *testing.T) {
	h := sample.History("1 c w5 w6; 2 c w5; 5: 1 2; 6: 1")
	unchanged(t, h, func() {
		x, _ := history.Find(h, 1)
		x.Ops[0] = writeOf(777)
		history.Order(h, 5)[0] = 777
	})
}
