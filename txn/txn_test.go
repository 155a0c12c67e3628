package txn_test

import (
	"math"
	"math/rand"
	"slices"
	"strconv"
	"strings"
	"testing"

	"tenter/api"
	"tenter/op"
	"tenter/txn"
)

func writeOf(key int) api.Op { return api.Op{Key: key} }

func readOf(key, tx, nth int) api.Op { return api.Op{Read: true, Key: key, Tx: tx, Nth: nth} }

// opsOf reads operations with blanks between.
func opsOf(t *testing.T, text string) []api.Op {
	t.Helper()
	var l []api.Op
	for _, word := range strings.Fields(text) {
		o, why := op.Read(word)
		if why != api.OK {
			t.Fatalf("Read of %q: %d", word, why)
		}
		l = append(l, o)
	}
	return l
}

// txOf is a transaction that is done, of operations as text.
func txOf(t *testing.T, id int, text string) api.Tx {
	t.Helper()
	return api.Tx{Id: id, Done: true, Ops: opsOf(t, text)}
}

// many repeats operations till there are so many.
func many(size int, l ...api.Op) []api.Op {
	var all []api.Op
	for i := range size {
		all = append(all, l[i%len(l)])
	}
	return all
}

// anyTx is a transaction of few ids, keys and numbers, so that what it reads is often its own; if it may be wrong, some numbers are.
func anyTx(from *rand.Rand, wrong bool) api.Tx {
	odd := []int{0, 1, -1, math.MinInt, math.MaxInt, api.MaxKey + 1, 1 << 32}
	number := func(least, most int) int {
		if wrong && from.Intn(8) == 0 {
			return odd[from.Intn(len(odd))]
		}
		return least + from.Intn(most-least+1)
	}
	t := api.Tx{Id: number(1, 3), Done: from.Intn(2) == 0}
	for range from.Intn(12) {
		switch from.Intn(4) {
		case 0, 1:
			t.Ops = append(t.Ops, writeOf(number(1, 4)))
		case 2:
			t.Ops = append(t.Ops, readOf(number(1, 4), 0, 0))
		default:
			t.Ops = append(t.Ops, readOf(number(1, 4), number(1, 3), number(1, 3)))
		}
		if wrong && from.Intn(20) == 0 {
			t.Ops = append(t.Ops, api.Op{Key: number(1, 4), Tx: number(0, 3), Nth: number(0, 3)})
		}
	}
	return t
}

// eachTx goes through many transactions, right and not.
func eachTx(t *testing.T, seed int64, look func(t *testing.T, x api.Tx)) {
	t.Helper()
	from := rand.New(rand.NewSource(seed))
	for i := range 20000 {
		look(t, anyTx(from, i%2 == 0))
		if t.Failed() {
			return
		}
	}
}

// unchanged makes a call, and looks whether it left its transaction alone.
func unchanged(t *testing.T, x api.Tx, call func()) {
	t.Helper()
	was := slices.Clone(x.Ops)
	call()
	if !slices.Equal(x.Ops, was) {
		t.Errorf("the operations are %v, and were %v", x.Ops, was)
	}
}

// 10.1

func wantRight(t *testing.T, x api.Tx, why api.Errno) {
	t.Helper()
	if got := txn.Right(x); got != why {
		t.Errorf("Right of %d, %d operations, %.200s: %d, want %d", x.Id, len(x.Ops), txn.Text(x), got, why)
	}
}

func TestRight(t *testing.T) {
	for _, text := range []string{
		"", "w5", "w5 w5 w5", "r5@0", "r5@3.1", "w5 r5@4.1", "w5 w6 w5 r5@4.2 r6@4.1 r5@4.1", "w5 r5@4.1 r5@4.1 w5 r5@4.2", "r5@1048575.4095", "r5@3.4095 r6@3.1",
	} {
		x := txOf(t, 4, text)
		wantRight(t, x, api.OK)
		x.Done = false
		wantRight(t, x, api.OK)
	}
	wantRight(t, txOf(t, 3, "w5 r5@3.1 r1@2.1"), api.OK)
}

func TestRightOfIds(t *testing.T) {
	for _, id := range []int{1, 2, api.MaxId} {
		wantRight(t, api.Tx{Id: id}, api.OK)
		wantRight(t, api.Tx{Id: id, Done: true, Ops: []api.Op{writeOf(5), readOf(5, id, 1)}}, api.OK)
	}
	for _, id := range []int{0, -1, api.MaxId + 1, 1 << 21, 1<<32 + 1, math.MinInt, math.MaxInt} {
		wantRight(t, api.Tx{Id: id}, api.ErrRange)
		wantRight(t, api.Tx{Id: id, Done: true, Ops: []api.Op{writeOf(5)}}, api.ErrRange)
	}
}

func TestRightOfManyOperations(t *testing.T) {
	wantRight(t, api.Tx{Id: 4, Ops: many(api.MaxOps, writeOf(5), readOf(5, 4, 1))}, api.OK)
	wantRight(t, api.Tx{Id: 4, Ops: many(api.MaxOps+1, writeOf(5), readOf(5, 4, 1))}, api.ErrLong)
	wantRight(t, api.Tx{Id: 4, Ops: many(3*api.MaxOps, readOf(5, 0, 0))}, api.ErrLong)
	last := append(many(api.MaxOps-1, writeOf(5)), readOf(5, 4, api.MaxOps-1))
	wantRight(t, api.Tx{Id: 4, Ops: last}, api.OK)
	last[api.MaxOps-1].Nth = api.MaxOps
	wantRight(t, api.Tx{Id: 4, Ops: last}, api.ErrRead)
}

func TestRightOfReadsOfItsOwn(t *testing.T) {
	for _, text := range []string{
		"r5@4.1", "r5@4.1 w5", "w5 r5@4.2", "w5 r5@4.2 w5", "w6 r5@4.1", "w5 w6 r6@4.2", "w5 w5 w6 r5@4.3 w5", "w5 r6@4.1 w6", "r5@0 r5@4.1", "r5@3.1 r5@4.1", "w5 r5@4.4095",
		"w5 r5@4.1 w6 r6@4.1 r6@4.2 w6",
	} {
		wantRight(t, txOf(t, 4, text), api.ErrRead)
		wantRight(t, txOf(t, 5, text), api.OK)
	}
}

func TestRightTellsTheFirstError(t *testing.T) {
	wrong, unread := writeOf(0), readOf(5, 4, 1)
	wantRight(t, api.Tx{Id: 0, Ops: many(api.MaxOps+1, wrong)}, api.ErrRange)
	wantRight(t, api.Tx{Id: 4, Ops: many(api.MaxOps+1, wrong)}, api.ErrLong)
	wantRight(t, api.Tx{Id: 4, Ops: many(api.MaxOps+1, unread)}, api.ErrLong)
	wantRight(t, api.Tx{Id: 4, Ops: many(api.MaxOps, wrong)}, api.ErrRange)
	wantRight(t, api.Tx{Id: 4, Ops: []api.Op{wrong, unread}}, api.ErrRange)
	wantRight(t, api.Tx{Id: 4, Ops: []api.Op{unread, wrong}}, api.ErrRead)
	wantRight(t, api.Tx{Id: 4, Ops: []api.Op{writeOf(5), unread, wrong}}, api.ErrRange)
	// These two read what is its own, and has no number.
	wantRight(t, api.Tx{Id: 4, Ops: []api.Op{readOf(5, 4, 0)}}, api.ErrRange)
	wantRight(t, api.Tx{Id: 4, Ops: []api.Op{readOf(0, 4, 1)}}, api.ErrRange)
}

func TestRightOfWrongOperations(t *testing.T) {
	for _, o := range []api.Op{
		{}, writeOf(-1), writeOf(api.MaxKey + 1), {Key: 5, Tx: 4}, {Key: 5, Nth: 1}, {Key: 5, Tx: 4, Nth: 1},
		readOf(5, 0, 1), readOf(5, 3, 0), readOf(5, -3, 1), readOf(5, 3, api.MaxNth+1), readOf(5, api.MaxId+1, 1), readOf(api.MaxKey+1, 0, 0),
	} {
		wantRight(t, api.Tx{Id: 4, Ops: []api.Op{o}}, api.ErrRange)
		wantRight(t, api.Tx{Id: 4, Ops: []api.Op{writeOf(5), o}}, api.ErrRange)
	}
}

// rightBy goes through the operations, and for each read through those ahead of it.
func rightBy(x api.Tx) api.Errno {
	if x.Id < 1 || x.Id > 1048575 {
		return api.ErrRange
	}
	if len(x.Ops) > 4095 {
		return api.ErrLong
	}
	for i, o := range x.Ops {
		if why := op.Right(o); why != api.OK {
			return why
		}
		ahead := api.Tx{Ops: x.Ops[:i]}
		if o.Read && o.Tx == x.Id && o.Nth > writesBy(ahead, o.Key) {
			return api.ErrRead
		}
	}
	return api.OK
}

func TestRightOfAny(t *testing.T) {
	told := map[api.Errno]int{}
	eachTx(t, 101, func(t *testing.T, x api.Tx) {
		why := rightBy(x)
		told[why]++
		unchanged(t, x, func() { wantRight(t, x, why) })
	})
	if told[api.OK] < 1000 || told[api.ErrRange] < 1000 || told[api.ErrRead] < 1000 {
		t.Errorf("some errors are too few: %v", told)
	}
}

// 10.2

func writesBy(x api.Tx, key int) int {
	n := 0
	for _, o := range x.Ops {
		if o.Key == key && !o.Read {
			n += 1
		}
	}
	return n
}

// keysBy seeks keys by what is in a set.
func keysBy(x api.Tx, reads bool) []int {
	met := map[int]bool{}
	var l []int
	for _, o := range x.Ops {
		if (reads || !o.Read) && !met[o.Key] {
			met[o.Key] = true
			l = append(l, o.Key)
		}
	}
	slices.Sort(l)
	return l
}

func needsBy(x api.Tx) []api.Version {
	var l []api.Version
	for _, o := range x.Ops {
		v := api.Version{Tx: o.Tx, Key: o.Key, Nth: o.Nth}
		if o.Read && o.Tx != 0 && o.Tx != x.Id && !slices.Contains(l, v) {
			l = append(l, v)
		}
	}
	return l
}

func wantAll(t *testing.T, x api.Tx) {
	t.Helper()
	if got, want := txn.Keys(x), keysBy(x, false); !slices.Equal(got, want) {
		t.Errorf("Keys of %v: %v, want %v", x, got, want)
	}
	if got, want := txn.Touched(x), keysBy(x, true); !slices.Equal(got, want) {
		t.Errorf("Touched of %v: %v, want %v", x, got, want)
	}
	if got, want := txn.Needs(x), needsBy(x); !slices.Equal(got, want) {
		t.Errorf("Needs of %v: %v, want %v", x, got, want)
	}
	if got, want := txn.Weight(x), len(x.Ops)+1; got != want {
		t.Errorf("Weight of %v: %d, want %d", x, got, want)
	}
	for _, key := range append(keysBy(x, true), 0, 1, 2, 5, -1, math.MinInt, math.MaxInt) {
		if got, want := txn.Writes(x, key), writesBy(x, key); got != want {
			t.Errorf("Writes of %v, key %d: %d, want %d", x, key, got, want)
		}
	}
}

func TestWrites(t *testing.T) {
	x := txOf(t, 4, "w5 r5@4.1 w6 w5 r7@0 r6@3.1 w5")
	want := map[int]int{5: 3, 6: 1, 7: 0, 4: 0, 0: 0, -5: 0, math.MaxInt: 0}
	for key, n := range want {
		if got := txn.Writes(x, key); got != n {
			t.Errorf("Writes of key %d: %d, want %d", key, got, n)
		}
	}
	if got := txn.Writes(api.Tx{}, 0); got != 0 {
		t.Errorf("Writes of nothing: %d", got)
	}
	if got := txn.Writes(api.Tx{Ops: many(10000, writeOf(7), writeOf(-7))}, -7); got != 5000 {
		t.Errorf("Writes of many: %d", got)
	}
}

func TestKeysAndTouched(t *testing.T) {
	want := []struct {
		text          string
		keys, touched []int
	}{
		{"", nil, nil},
		{"w5", []int{5}, []int{5}},
		{"r5@0", nil, []int{5}},
		{"w9 w2 w9 w1 w2", []int{1, 2, 9}, []int{1, 2, 9}},
		{"r8@0 w9 r1@3.1 w2 r9@0 r1@0", []int{2, 9}, []int{1, 2, 8, 9}},
		{"w1048575 w1 r1048574@7.7", []int{1, 1048575}, []int{1, 1048574, 1048575}},
	}
	for _, w := range want {
		x := txOf(t, 4, w.text)
		if got := txn.Keys(x); !slices.Equal(got, w.keys) {
			t.Errorf("Keys of %q: %v, want %v", w.text, got, w.keys)
		}
		if got := txn.Touched(x); !slices.Equal(got, w.touched) {
			t.Errorf("Touched of %q: %v, want %v", w.text, got, w.touched)
		}
	}
}

func TestNeeds(t *testing.T) {
	want := []struct {
		text  string
		needs []api.Version
	}{
		{"", nil}, {"w5 w6", nil}, {"r5@0 r6@0", nil}, {"w5 r5@3.1", nil},
		{"w5 r5@3.1 r1@2.1", []api.Version{{Tx: 2, Key: 1, Nth: 1}}},
		{"r9@7.2 r1@2.1 r9@7.1 r1@2.1 r9@7.2", []api.Version{{Tx: 7, Key: 9, Nth: 2}, {Tx: 2, Key: 1, Nth: 1}, {Tx: 7, Key: 9, Nth: 1}}},
		{"r1@2.1 r2@2.1 r1@1.1 r1@2.2", []api.Version{{Tx: 2, Key: 1, Nth: 1}, {Tx: 2, Key: 2, Nth: 1}, {Tx: 1, Key: 1, Nth: 1}, {Tx: 2, Key: 1, Nth: 2}}},
	}
	for _, w := range want {
		if got := txn.Needs(txOf(t, 3, w.text)); !slices.Equal(got, w.needs) {
			t.Errorf("Needs of %q: %v, want %v", w.text, got, w.needs)
		}
	}
}

func TestWeight(t *testing.T) {
	for _, size := range []int{0, 1, 2, api.MaxOps, api.MaxOps + 1, 100000} {
		if got := txn.Weight(api.Tx{Id: 4, Ops: many(size, writeOf(5), readOf(1, 2, 3))}); got != size+1 {
			t.Errorf("Weight of %d operations: %d", size, got)
		}
	}
}

func TestWhatIsNotRightIsToldOf(t *testing.T) {
	for _, x := range []api.Tx{
		{},
		{Id: -3, Ops: []api.Op{readOf(0, -3, 0), readOf(0, 3, 0), readOf(-1, -2, math.MinInt), readOf(-1, 0, 7), readOf(-1, -2, math.MinInt)}},
		{Id: 0, Ops: []api.Op{writeOf(-1), writeOf(0), writeOf(math.MaxInt), writeOf(math.MinInt), writeOf(-1), readOf(5, 0, 1)}},
		{Id: 4, Ops: []api.Op{{Key: 5, Tx: 3, Nth: 2}, {Key: 6, Tx: 4}, readOf(5, 4, 9), readOf(5, 3, 0)}},
		{Id: 4, Ops: many(9000, writeOf(5), readOf(5, 3, 1), readOf(6, 3, 1))},
	} {
		unchanged(t, x, func() { wantAll(t, x) })
	}
}

func TestAllOfAny(t *testing.T) {
	eachTx(t, 102, func(t *testing.T, x api.Tx) {
		unchanged(t, x, func() { wantAll(t, x) })
	})
}

// 10.3

func TestBare(t *testing.T) {
	want := map[string]string{
		"": "", "w5": "w5", "r5@0": "", "r5@3.1 r6@4.1": "", "w5 r5@3.1 w6 r1@2.1 w5": "w5 w6 w5", "r1@0 w9 w1": "w9 w1",
	}
	for text, bare := range want {
		for _, done := range []bool{false, true} {
			x := api.Tx{Id: 3, Done: done, Ops: opsOf(t, text)}
			got := txn.Bare(x)
			if got.Id != 3 || got.Done != done || !slices.Equal(got.Ops, opsOf(t, bare)) {
				t.Errorf("Bare of %q: %v", text, got)
			}
		}
	}
}

func TestBareSharesNoMemory(t *testing.T) {
	x := txOf(t, 3, "w5 w6 w7")
	got := txn.Bare(x)
	x.Ops[0].Key = 8
	got.Ops[1].Key = 9
	_ = append(got.Ops[:0], writeOf(1))
	if x.Ops[1].Key != 6 || got.Ops[0].Key != 1 || got.Ops[2].Key != 7 || x.Ops[0].Key != 8 {
		t.Errorf("they share memory: %v, %v", x.Ops, got.Ops)
	}
}

func TestText(t *testing.T) {
	want := []struct {
		x    api.Tx
		text string
	}{
		{txOf(t, 3, "w5 r5@3.1 r1@2.1"), "3 c w5 r5@3.1 r1@2.1"},
		{api.Tx{Id: 3, Ops: opsOf(t, "w5 r5@3.1 r1@2.1")}, "3 a w5 r5@3.1 r1@2.1"},
		{txOf(t, 1, ""), "1 c"}, {api.Tx{Id: api.MaxId}, "1048575 a"}, {txOf(t, 20, "r5@0"), "20 c r5@0"},
		{api.Tx{}, "0 a"}, {api.Tx{Id: -7, Done: true, Ops: opsOf(t, "w5")}, "-7 c w5"},
		{api.Tx{Id: math.MinInt}, "-9223372036854775808 a"},
		// An operation that is not right has a text, too: the empty one, with blanks around it as around any.
		{api.Tx{Id: 3, Ops: []api.Op{writeOf(5), writeOf(0), writeOf(6)}}, "3 a w5  w6"},
		{api.Tx{Id: 3, Ops: []api.Op{readOf(5, 3, 0)}}, "3 a "},
	}
	for _, w := range want {
		unchanged(t, w.x, func() {
			if got := txn.Text(w.x); got != w.text {
				t.Errorf("Text(%v) is %q, want %q", w.x, got, w.text)
			}
		})
	}
}

func TestTextOfAny(t *testing.T) {
	eachTx(t, 103, func(t *testing.T, x api.Tx) {
		want := strconv.Itoa(x.Id) + map[bool]string{true: " c", false: " a"}[x.Done]
		for _, o := range x.Ops {
			want += " " + op.Text(o)
		}
		if got := txn.Text(x); got != want {
			t.Errorf("Text(%v) is %q, want %q", x, got, want)
		}
	})
}

func TestSame(t *testing.T) {
	unlike := []api.Tx{
		{}, {Id: 3}, {Id: 4}, {Id: -3}, {Done: true}, {Id: 3, Done: true}, txOf(t, 3, "w5"), txOf(t, 4, "w5"), {Id: 3, Ops: opsOf(t, "w5")},
		txOf(t, 3, "w6"), txOf(t, 3, "w5 w5"), txOf(t, 3, "w5 r5@0"), txOf(t, 3, "r5@0 w5"), txOf(t, 3, "r5@0"), txOf(t, 3, "r5@3.1"), txOf(t, 3, "r5@3.2"), txOf(t, 3, "r5@4.1"),
		{Id: 3, Done: true, Ops: []api.Op{{}}}, {Id: 3, Done: true, Ops: []api.Op{{Key: 5, Tx: 3, Nth: 1}}},
	}
	for i, a := range unlike {
		for k, b := range unlike {
			b.Ops = slices.Clone(b.Ops)
			if got := txn.Same(a, b); got != (i == k) {
				t.Errorf("Same(%v, %v) is %v", a, b, got)
			}
		}
	}
	if !txn.Same(api.Tx{Id: 3}, api.Tx{Id: 3, Ops: []api.Op{}}) {
		t.Errorf("no operations, nil or not, are not the same")
	}
}

// 10.4

func TestWithoutItsReads(t *testing.T) {
	right := 0
	eachTx(t, 104, func(t *testing.T, x api.Tx) {
		bare := txn.Bare(x)
		if !slices.Equal(txn.Keys(bare), txn.Keys(x)) || !slices.Equal(txn.Touched(bare), txn.Keys(x)) {
			t.Errorf("%v writes other keys without its reads", x)
		}
		writes := 0
		for _, key := range txn.Keys(x) {
			writes += txn.Writes(x, key)
			if txn.Writes(bare, key) != txn.Writes(x, key) {
				t.Errorf("%v writes otherwise without its reads", x)
			}
		}
		if len(txn.Needs(bare)) != 0 || txn.Weight(bare) != writes+1 || !txn.Same(txn.Bare(bare), bare) {
			t.Errorf("%v has reads without them: %v", x, bare)
		}
		if txn.Right(x) == api.OK {
			right++
			wantRight(t, bare, api.OK)
		}
	})
	if right < 1000 {
		t.Errorf("%d transactions are right: too few", right)
	}
}
