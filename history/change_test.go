package history_test

import (
	"math"
	"math/rand"
	"slices"
	"testing"

	"tenter/api"
	"tenter/history"
	"tenter/sample"
	"tenter/txn"
)

// The example of the chapter.
func TestExample(t *testing.T) {
	h := wantEdit(t, api.History{}, inserting(sample.Tx("1 c w5")), sample.History("1 c w5; 5: 1"), api.OK)
	h = wantEdit(t, h, inserting(sample.Tx("2 c w5 r5@1.1")), sample.History("1 c w5; 2 c w5 r5@1.1; 5: 1 2"), api.OK)
	wantWhy(t, h, deleting(1), api.ErrUsed)
	h = wantEdit(t, h, amending(sample.Tx("1 a w5")), sample.History("1 a w5; 2 c w5 r5@1.1; 5: 2"), api.OK)
	wantText(t, h, amending(sample.Tx("1 c w5")), "1 c w5; 2 c w5 r5@1.1; 5: 2 1")
}

// 12.2

func TestOfHistoriesThatAreNotRight(t *testing.T) {
	for _, text := range []string{"1 c w5", "5:", "2 a; 1 a", "1 a r5@2.1", "1 c w5; 5: 1; 6:", "1 c w5; 5: 1 1", "1 a; 1 a"} {
		h := sample.History(text)
		for _, e := range []edit{
			inserting(sample.Tx("9 c w5")), inserting(api.Tx{}), inserting(sample.Tx("1 a")), inserting(sample.Tx("9 a r5@7.1")),
			deleting(1), deleting(9), amending(sample.Tx("1 a")), amending(api.Tx{}), amending(sample.Tx("9 a")),
			reordering(api.Order{Key: 5, Txs: []int{1}}), reordering(api.Order{Key: 9}), moving(5, 1, 0), moving(9, 1, 0), moving(5, 9, -1),
		} {
			wantWhy(t, h, e, api.ErrForm)
		}
	}
	wantWhy(t, crowd(api.MaxTxs+1), inserting(sample.Tx("9999 a")), api.ErrForm)
	wantWhy(t, crowd(api.MaxTxs+1), deleting(1), api.ErrForm)
}

func TestOfAnyHistoryThatIsNotRight(t *testing.T) {
	eachEdit(t, 123, 100, func(h api.History, e edit, from *rand.Rand) {
		other := spoilt(h, from)
		want, why := e.by(other)
		wantEdit(t, other, e, want, why)
	})
}

// 12.3

func TestInsert(t *testing.T) {
	h := sample.History("2 c w5 w5; 4 a w6; 6 c w5 w7; 5: 6 2; 7: 6")
	for x, text := range map[string]string{
		"1 a":                "1 a; 2 c w5 w5; 4 a w6; 6 c w5 w7; 5: 6 2; 7: 6",
		"3 c":                "2 c w5 w5; 3 c; 4 a w6; 6 c w5 w7; 5: 6 2; 7: 6",
		"9 a w5 w8":          "2 c w5 w5; 4 a w6; 6 c w5 w7; 9 a w5 w8; 5: 6 2; 7: 6",
		"1 c w5 w5":          "1 c w5 w5; 2 c w5 w5; 4 a w6; 6 c w5 w7; 5: 6 2 1; 7: 6",
		"3 c w6":             "2 c w5 w5; 3 c w6; 4 a w6; 6 c w5 w7; 5: 6 2; 6: 3; 7: 6",
		"9 c w9 w1 w5 w1":    "2 c w5 w5; 4 a w6; 6 c w5 w7; 9 c w9 w1 w5 w1; 1: 9; 5: 6 2 9; 7: 6; 9: 9",
		"3 c r5@2.2 r6@4.1":  "2 c w5 w5; 3 c r5@2.2 r6@4.1; 4 a w6; 6 c w5 w7; 5: 6 2; 7: 6",
		"1048575 a r8@0":     "2 c w5 w5; 4 a w6; 6 c w5 w7; 1048575 a r8@0; 5: 6 2; 7: 6",
		"3 c w7 r7@3.1 w7":   "2 c w5 w5; 3 c w7 r7@3.1 w7; 4 a w6; 6 c w5 w7; 5: 6 2; 7: 6 3",
		"3 c w1048575 r5@0":  "2 c w5 w5; 3 c w1048575 r5@0; 4 a w6; 6 c w5 w7; 5: 6 2; 7: 6; 1048575: 3",
		"5 a r5@2.1 r7@6.1 ": "2 c w5 w5; 4 a w6; 5 a r5@2.1 r7@6.1; 6 c w5 w7; 5: 6 2; 7: 6",
	} {
		wantText(t, h, inserting(sample.Tx(x)), text)
	}
}

func TestInsertOfWrong(t *testing.T) {
	h := sample.History("2 c w5 w5; 4 a w6; 5: 2")
	for x, why := range map[string]api.Errno{
		"2 a": api.ErrThere, "4 c w6": api.ErrThere, "2 c w5 w5": api.ErrThere, "2 a r9@9.9": api.ErrThere,
		"3 a r5@2.3": api.ErrRead, "3 a r6@2.1": api.ErrRead, "3 a r5@4.1": api.ErrRead, "3 a r5@7.1": api.ErrRead, "3 a r5@2.1 r5@2.3": api.ErrRead, "3 a w5 r5@7.1": api.ErrRead,
		"3 a r5@3.1": api.ErrRead, "2 a r5@2.1": api.ErrRead, "0 a": api.ErrRange, "1048576 a": api.ErrRange,
	} {
		wantWhy(t, h, inserting(sample.Tx(x)), why)
	}
	for _, id := range []int{0, -1, -2, math.MinInt, math.MaxInt} {
		wantWhy(t, h, inserting(api.Tx{Id: id}), api.ErrRange)
	}
	wantWhy(t, h, inserting(api.Tx{Id: 2, Ops: []api.Op{writeOf(0)}}), api.ErrRange)
	wantWhy(t, h, inserting(api.Tx{Id: 2, Ops: make([]api.Op, api.MaxOps+1)}), api.ErrLong)
	wantWhy(t, h, inserting(api.Tx{Id: 3, Ops: []api.Op{readOf(5, 9, 1), writeOf(0)}}), api.ErrRange)
}

func TestInsertIntoMany(t *testing.T) {
	h := crowd(api.MaxTxs)
	wantWhy(t, h, inserting(sample.Tx("5000 c w5")), api.ErrFull)
	wantWhy(t, h, inserting(sample.Tx("5000 c r5@1.1")), api.ErrRead)
	wantWhy(t, h, inserting(sample.Tx("4096 c")), api.ErrThere)
	wantWhy(t, h, inserting(sample.Tx("0 c")), api.ErrRange)
	h.Txs = h.Txs[1:]
	want := sample.Copy(h)
	want.Txs = append(want.Txs, sample.Tx("5000 c w5"))
	want.Orders = []api.Order{{Key: 5, Txs: []int{5000}}}
	wantEdit(t, h, inserting(sample.Tx("5000 c w5")), want, api.OK)
}

// 12.4

func TestDelete(t *testing.T) {
	h := sample.History("2 c w5 w5 w6; 4 a w6 r5@2.1; 6 c w5 w7 r7@6.1; 5: 6 2; 6: 2; 7: 6")
	wantText(t, h, deleting(4), "2 c w5 w5 w6; 6 c w5 w7 r7@6.1; 5: 6 2; 6: 2; 7: 6")
	wantText(t, h, deleting(6), "2 c w5 w5 w6; 4 a w6 r5@2.1; 5: 2; 6: 2")
	wantWhy(t, h, deleting(2), api.ErrUsed)
	for _, id := range []int{0, 1, 3, 5, 7, -2, math.MinInt, math.MaxInt} {
		wantWhy(t, h, deleting(id), api.ErrNone)
		wantWhy(t, api.History{}, deleting(id), api.ErrNone)
	}
	rest := wantEdit(t, h, deleting(4), sample.History("2 c w5 w5 w6; 6 c w5 w7 r7@6.1; 5: 6 2; 6: 2; 7: 6"), api.OK)
	rest = wantEdit(t, rest, deleting(2), sample.History("6 c w5 w7 r7@6.1; 5: 6; 7: 6"), api.OK)
	wantEdit(t, rest, deleting(6), api.History{}, api.OK)
	wantWhy(t, sample.History("1 a w5 r5@2.1; 2 a w5 r5@1.1"), deleting(1), api.ErrUsed)
	wantText(t, sample.History("1 c w5 r5@0; 2 c r5@0; 5: 1"), deleting(1), "2 c r5@0")
}

// 12.5

func TestAmend(t *testing.T) {
	h := sample.History("2 c w5 w5 w6; 4 a w6 r5@2.1; 6 c w5 w7; 5: 2 6; 6: 2; 7: 6")
	for x, text := range map[string]string{
		"2 c w5 w5 w6":            "2 c w5 w5 w6; 4 a w6 r5@2.1; 6 c w5 w7; 5: 2 6; 6: 2; 7: 6",
		"2 c w5":                  "2 c w5; 4 a w6 r5@2.1; 6 c w5 w7; 5: 2 6; 7: 6",
		"2 a w5":                  "2 a w5; 4 a w6 r5@2.1; 6 c w5 w7; 5: 6; 7: 6",
		"2 c w7 w5 w8 r6@4.1":     "2 c w7 w5 w8 r6@4.1; 4 a w6 r5@2.1; 6 c w5 w7; 5: 2 6; 7: 6 2; 8: 2",
		"4 c w6 w5":               "2 c w5 w5 w6; 4 c w6 w5; 6 c w5 w7; 5: 2 6 4; 6: 2 4; 7: 6",
		"4 a":                     "2 c w5 w5 w6; 4 a; 6 c w5 w7; 5: 2 6; 6: 2; 7: 6",
		"6 c":                     "2 c w5 w5 w6; 4 a w6 r5@2.1; 6 c; 5: 2; 6: 2",
		"6 a w5 w7":               "2 c w5 w5 w6; 4 a w6 r5@2.1; 6 a w5 w7; 5: 2; 6: 2",
		"6 c w1 r5@2.2 w7 r1@6.1": "2 c w5 w5 w6; 4 a w6 r5@2.1; 6 c w1 r5@2.2 w7 r1@6.1; 1: 6; 5: 2; 6: 2; 7: 6",
	} {
		wantText(t, h, amending(sample.Tx(x)), text)
	}
}

func TestAmendOfWrong(t *testing.T) {
	h := sample.History("2 c w5 w5 w6; 4 a w6 r5@2.2; 6 c w5; 5: 2 6; 6: 2")
	for x, why := range map[string]api.Errno{
		"1 a": api.ErrNone, "3 c w5": api.ErrNone, "7 a r9@9.9": api.ErrNone, "0 a": api.ErrRange,
		"2 c w5": api.ErrUsed, "2 a": api.ErrUsed, "2 c w6 w6": api.ErrUsed, "2 c w5 r5@6.2": api.ErrRead, "2 c r6@4.1": api.ErrUsed,
		"6 c w5 r5@7.1": api.ErrRead, "6 c r5@2.3": api.ErrRead, "6 c r5@4.1": api.ErrRead, "6 a r5@6.1": api.ErrRead, "2 a w5 r5@2.2": api.ErrRead,
	} {
		wantWhy(t, h, amending(sample.Tx(x)), why)
	}
	wantWhy(t, h, amending(api.Tx{Id: 9, Ops: []api.Op{writeOf(0)}}), api.ErrRange)
	wantWhy(t, h, amending(api.Tx{Id: 9, Ops: make([]api.Op, api.MaxOps+1)}), api.ErrLong)
	wantWhy(t, api.History{}, amending(sample.Tx("1 a")), api.ErrNone)
	wantText(t, h, amending(sample.Tx("2 a w5 w5")), "2 a w5 w5; 4 a w6 r5@2.2; 6 c w5; 5: 6")
}

func TestAmendOfMany(t *testing.T) {
	h := crowd(api.MaxTxs)
	want := sample.Copy(h)
	want.Txs[6] = sample.Tx("7 c w5")
	want.Orders = []api.Order{{Key: 5, Txs: []int{7}}}
	wantEdit(t, h, amending(sample.Tx("7 c w5")), want, api.OK)
}

// 12.6

func TestReorder(t *testing.T) {
	const txs = "1 c w5 w6; 2 c w5; 3 c w5; 4 a w7; "
	h := sample.History(txs + "5: 2 1 3; 6: 1")
	wantText(t, h, reordering(sample.Order("5: 3 2 1")), txs+"5: 3 2 1; 6: 1")
	wantText(t, h, reordering(sample.Order("5: 2 1 3")), txs+"5: 2 1 3; 6: 1")
	wantText(t, h, reordering(sample.Order("6: 1")), txs+"5: 2 1 3; 6: 1")
	for o, why := range map[string]api.Errno{
		"7: 4": api.ErrNone, "7:": api.ErrNone, "4: 1 2 3": api.ErrNone, "0:": api.ErrNone,
		"5:": api.ErrOrder, "5: 1": api.ErrOrder, "5: 1 2": api.ErrOrder, "5: 1 2 4": api.ErrOrder, "5: 1 2 2": api.ErrOrder, "5: 1 2 3 3": api.ErrOrder, "5: 1 2 3 4": api.ErrOrder, "6:": api.ErrOrder, "6: 2": api.ErrOrder, "6: 1 1": api.ErrOrder, "5: 0 1 2 3": api.ErrOrder,
	} {
		wantWhy(t, h, reordering(sample.Order(o)), why)
	}
	for _, key := range []int{-5, math.MinInt, math.MaxInt} {
		wantWhy(t, h, reordering(api.Order{Key: key}), api.ErrNone)
	}
	wantWhy(t, api.History{}, reordering(api.Order{}), api.ErrNone)
}

func TestMove(t *testing.T) {
	const txs = "1 c w5 w6; 2 c w5; 3 c w5; 4 a w7; "
	h := sample.History(txs + "5: 2 1 3; 6: 1")
	wantText(t, h, moving(5, 2, 2), txs+"5: 1 3 2; 6: 1")
	wantText(t, h, moving(5, 3, 0), txs+"5: 3 2 1; 6: 1")
	wantText(t, h, moving(5, 1, 1), txs+"5: 2 1 3; 6: 1")
	wantText(t, h, moving(6, 1, 0), txs+"5: 2 1 3; 6: 1")
	for _, move := range [][3]int{{7, 4, 0}, {7, 4, 9}, {4, 1, 0}, {0, 1, 0}, {-5, 1, 0}, {5, 4, 0}, {5, 4, 9}, {5, 0, 0}, {5, -1, -1}, {6, 2, 0}} {
		wantWhy(t, h, moving(move[0], move[1], move[2]), api.ErrNone)
	}
	for _, move := range [][3]int{{5, 1, 3}, {5, 1, -1}, {5, 2, math.MaxInt}, {5, 3, math.MinInt}, {6, 1, 1}} {
		wantWhy(t, h, moving(move[0], move[1], move[2]), api.ErrRange)
	}
	wantWhy(t, api.History{}, moving(5, 1, 0), api.ErrNone)
}

// All of 12.3 to 12.6

func TestAnyEdit(t *testing.T) {
	told := map[api.Errno]int{}
	eachEdit(t, 124, 300, func(h api.History, e edit, from *rand.Rand) {
		want, why := e.by(h)
		told[why]++
		wantEdit(t, h, e, want, why)
	})
	for _, why := range []api.Errno{api.OK, api.ErrRange, api.ErrNone, api.ErrThere, api.ErrRead, api.ErrUsed, api.ErrOrder} {
		if told[why] < 50 {
			t.Errorf("the error %d is too rare: %v", why, told)
		}
	}
}

func TestAnswersAreNewMemory(t *testing.T) {
	eachEdit(t, 125, 60, func(h api.History, e edit, from *rand.Rand) {
		want, why := e.by(h)
		want = sample.Copy(want)
		unchanged(t, h, func() {
			got, _ := e.do(h)
			sample.Spoil(got)
		})
		old := sample.Copy(h)
		got, _ := e.do(old)
		sample.Spoil(old)
		if why == api.OK && !sameBy(got, want) {
			t.Errorf("of %s: %s shares memory with it", sample.Text(h), e.name)
		}
	})
}

func TestWhatIsHandedInIsNotKept(t *testing.T) {
	h := sample.History("1 c w5; 2 c w5; 5: 1 2")
	for _, call := range []func(h api.History, x api.Tx) (api.History, api.Errno){history.Insert, history.Amend} {
		x := sample.Tx("3 c w5 w6")
		if _, is := history.Find(h, 3); is {
			x = sample.Tx("3 c w5 w7")
		}
		got, why := call(h, x)
		x.Ops[1] = writeOf(777)
		if again, _ := history.Find(got, 3); why != api.OK || slices.Contains(again.Ops, writeOf(777)) {
			t.Errorf("%s, %d: a transaction that was handed in is kept", sample.Text(got), why)
		}
		h = got
	}
	o := sample.Order("5: 3 1 2")
	got, why := history.Reorder(h, o)
	o.Txs[0] = 777
	if why != api.OK || slices.Contains(history.Order(got, 5), 777) {
		t.Errorf("%s, %d: an order that was handed in is kept", sample.Text(got), why)
	}
}

// 12.7

func TestRightStaysRight(t *testing.T) {
	eachEdit(t, 126, 300, func(h api.History, e edit, from *rand.Rand) {
		if got, why := e.do(h); why == api.OK && (!rightBy(got) || !history.Right(got)) {
			t.Errorf("of %s: %s: %s is not right", sample.Text(h), e.name, sample.Text(got))
		}
	})
}

// 12.8

// wantAlone looks whether all but id are as they were, one to another.
func wantAlone(t *testing.T, a, b api.History, id int) {
	t.Helper()
	for _, x := range slices.Concat(a.Txs, b.Txs) {
		was, before := history.Find(a, x.Id)
		is, behind := history.Find(b, x.Id)
		if x.Id != id && (before != behind || !txn.Same(was, is)) {
			t.Errorf("from %s to %s: %d is another one", sample.Text(a), sample.Text(b), x.Id)
		}
	}
	for key := 1; key <= 9; key++ {
		was, is := history.Order(a, key), history.Order(b, key)
		other := func(x int) bool { return x == id }
		if !slices.Equal(slices.DeleteFunc(was, other), slices.DeleteFunc(is, other)) {
			t.Errorf("from %s to %s: others stand otherwise in the order of %d", sample.Text(a), sample.Text(b), key)
		}
	}
}

func TestAlone(t *testing.T) {
	eachEdit(t, 127, 300, func(h api.History, e edit, from *rand.Rand) {
		// An order that is put in the place of another one names all that stand in it.
		if got, why := e.do(h); why == api.OK && e.id != 0 {
			wantAlone(t, h, got, e.id)
		}
	})
	h := sample.History("1 c w5 w6; 2 c w5 w6; 5: 1 2; 6: 2 1")
	got, why := history.Reorder(h, sample.Order("5: 2 1"))
	if why != api.OK || !slices.Equal(history.Order(got, 6), []int{2, 1}) || !history.Same(api.History{Txs: got.Txs}, api.History{Txs: h.Txs}) {
		t.Errorf("Reorder of 5 changes others: %s, %d", sample.Text(got), why)
	}
}
