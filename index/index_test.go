package index_test

import (
	"cmp"
	"math"
	"math/rand"
	"slices"
	"testing"

	"tenter/api"
	"tenter/index"
	"tenter/sample"
	"tenter/txn"
)

// What the chapter says, once more, by going through all transactions, which stand by rising ids.

func putBy(l []api.Tx, t api.Tx) []api.Tx {
	l = append(dropBy(l, t.Id), t)
	slices.SortFunc(l, func(a, b api.Tx) int { return cmp.Compare(a.Id, b.Id) })
	return l
}

func dropBy(l []api.Tx, id int) []api.Tx {
	return slices.DeleteFunc(slices.Clone(l), func(t api.Tx) bool { return t.Id == id })
}

// idsBy tells the ids of those that is holds of.
func idsBy(l []api.Tx, is func(t api.Tx) bool) []int {
	var ids []int
	for _, t := range l {
		if is(t) {
			ids = append(ids, t.Id)
		}
	}
	return ids
}

func writesBy(l []api.Tx, id, key int) int {
	for _, t := range l {
		if t.Id == id {
			return txn.Writes(t, key)
		}
	}
	return 0
}

// readsBy tells whether t has a read of v, which is another one's.
func readsBy(t api.Tx, v api.Version) bool {
	return v.Tx != 0 && v.Tx != t.Id && slices.Contains(t.Ops, api.Op{Read: true, Key: v.Key, Tx: v.Tx, Nth: v.Nth})
}

func lacksBy(l []api.Tx, v api.Version) bool {
	return len(idsBy(l, func(t api.Tx) bool { return readsBy(t, v) })) > 0 && writesBy(l, v.Tx, v.Key) < v.Nth
}

func usesBy(t api.Tx, id int) bool {
	return id != 0 && id != t.Id && slices.ContainsFunc(t.Ops, func(o api.Op) bool { return o.Read && o.Tx == id })
}

func weightBy(l []api.Tx) int {
	sum := 0
	for _, t := range l {
		sum += 1 + len(t.Ops)
	}
	return sum
}

// oddNumbers are around those that may be, and at the ends of all.
func oddNumbers() []int {
	return []int{0, -1, math.MinInt, math.MaxInt, api.MaxId, api.MaxId + 1, 1 << 32, 1<<32 + 1}
}

// eachNumber tells few numbers from 0 on, and odd ones.
func eachNumber(least, most int) []int {
	l := oddNumbers()
	for i := least; i <= most; i++ {
		l = append(l, i)
	}
	return l
}

func texts(l []api.Tx) string { return sample.Text(api.History{Txs: l}) }

// wantIds looks at a list of ids.
func wantIds(t *testing.T, l []api.Tx, what any, got, want []int) {
	t.Helper()
	if !slices.Equal(got, want) {
		t.Fatalf("of %s: %v: %v, want %v", texts(l), what, got, want)
	}
}

// wantIndex looks by all calls at an index that is meant to have just these transactions, of few ids and keys.
func wantIndex(t *testing.T, x *index.Index, l []api.Tx) {
	t.Helper()
	wantIds(t, l, "Ids", x.Ids(), idsBy(l, func(api.Tx) bool { return true }))
	wantIds(t, l, "Weight", []int{x.Weight()}, []int{weightBy(l)})
	for _, id := range eachNumber(1, 7) {
		got, is := x.Tx(id)
		var want api.Tx
		at := slices.IndexFunc(l, func(t api.Tx) bool { return t.Id == id })
		if at >= 0 {
			want = l[at]
		}
		if is != (at >= 0) || !txn.Same(got, want) {
			t.Fatalf("of %s: Tx of %d: %s, %v", texts(l), id, txn.Text(got), is)
		}
		wantIds(t, l, [2]any{"Users", id}, x.Users(id), idsBy(l, func(t api.Tx) bool { return usesBy(t, id) }))
		for key := -1; key <= 4; key++ {
			wantIds(t, l, [3]any{"Writes", id, key}, []int{x.Writes(id, key)}, []int{writesBy(l, id, key)})
		}
	}
	for _, key := range eachNumber(1, 4) {
		wantIds(t, l, [2]any{"Writers", key}, x.Writers(key), idsBy(l, func(t api.Tx) bool { return t.Done && txn.Writes(t, key) > 0 }))
	}
	wantVersions(t, x, l)
}

// wantVersions looks at all versions of few ids, keys and numbers.
func wantVersions(t *testing.T, x *index.Index, l []api.Tx) {
	t.Helper()
	var lacks []api.Version
	for _, id := range []int{-1, 0, 1, 2, 3, 4, 5, 6, 7, api.MaxId + 1} {
		for key := -1; key <= 4; key++ {
			for nth := -1; nth <= 4; nth++ {
				v := api.Version{Tx: id, Key: key, Nth: nth}
				wantIds(t, l, v, x.Readers(v), idsBy(l, func(t api.Tx) bool { return readsBy(t, v) }))
				if lacksBy(l, v) {
					lacks = append(lacks, v)
				}
			}
		}
	}
	if got := x.Lacks(); !slices.Equal(got, lacks) {
		t.Fatalf("of %s: Lacks: %v, want %v", texts(l), got, lacks)
	}
}

func put(t *testing.T, x *index.Index, text string) {
	t.Helper()
	if why := x.Put(sample.Tx(text)); why != api.OK {
		t.Fatalf("Put of %s: %d", text, why)
	}
}

// made puts transactions, with ; between, into a new index.
func made(t *testing.T, text string) (*index.Index, []api.Tx) {
	t.Helper()
	x := index.New()
	l := sample.History(text).Txs
	for _, one := range l {
		put(t, x, txn.Text(one))
	}
	return x, l
}

// The example of the chapter.
func TestExample(t *testing.T) {
	x, l := made(t, "2 a r5@1.1")
	v := api.Version{Tx: 1, Key: 5, Nth: 1}
	wantIds(t, l, "Readers", x.Readers(v), []int{2})
	wantIds(t, l, "Users", x.Users(1), []int{2})
	if got := x.Lacks(); !slices.Equal(got, []api.Version{v}) {
		t.Errorf("Lacks: %v", got)
	}
	put(t, x, "1 a w5")
	if got := x.Lacks(); len(got) != 0 {
		t.Errorf("Lacks: %v", got)
	}
}

// 13.1

func TestNewHasNothing(t *testing.T) {
	x := index.New()
	wantIndex(t, x, nil)
	for _, id := range eachNumber(1, 4) {
		if why := x.Drop(id); why != api.ErrNone {
			t.Errorf("Drop of %d: %d", id, why)
		}
	}
	wantIndex(t, x, nil)
}

func TestPutInThePlaceOfAnother(t *testing.T) {
	x := index.New()
	for _, text := range []string{
		"1 c w1 w1 r2@3.1 r2@0", "1 c w1", "1 a w1", "1 a r2@3.1", "1 a r2@3.1", "1 c r2@3.2 r1@4.1", "1 c w2 w3 r2@1.1", "1 a", "1 c w1 r1@1.1 w1 r1@1.2 r1@2.1",
	} {
		put(t, x, text)
		wantIndex(t, x, []api.Tx{sample.Tx(text)})
	}
}

func TestDrop(t *testing.T) {
	x, l := made(t, "1 c w1 w2; 3 c w1 r1@1.1 r2@5.2; 4 a w3 r1@1.1 r1@3.1; 6 c r2@5.2 r2@5.1")
	wantIndex(t, x, l)
	for _, id := range []int{4, 1, 6, 3} {
		if why := x.Drop(id); why != api.OK {
			t.Fatalf("Drop of %d: %d", id, why)
		}
		l = dropBy(l, id)
		wantIndex(t, x, l)
		for _, none := range []int{id, 2, 5, 0, -id, math.MinInt, math.MaxInt} {
			if why := x.Drop(none); why != api.ErrNone {
				t.Fatalf("Drop of %d: %d", none, why)
			}
		}
		wantIndex(t, x, l)
	}
	wantIndex(t, x, nil)
}

// wrongTxs are transactions that are not right, by the errors that txn.Right tells of them.
func wrongTxs() map[api.Errno][]api.Tx {
	long := make([]api.Op, api.MaxOps+1)
	return map[api.Errno][]api.Tx{
		api.ErrRange: {{}, {Id: -1}, {Id: api.MaxId + 1}, {Id: math.MinInt}, {Id: 1, Ops: []api.Op{{Key: 0}}}, {Id: 1, Done: true, Ops: []api.Op{{Key: 1}, {Read: true, Key: 1, Tx: 2}}}, {Id: 0, Ops: long}},
		api.ErrLong:  {{Id: 1, Ops: long}},
		api.ErrRead:  {sample.Tx("1 c r1@1.1"), sample.Tx("1 c w1 r1@1.2"), sample.Tx("2 a w1 r2@2.1"), sample.Tx("7 a r1@7.1 w1")},
	}
}

func TestPutOfWrong(t *testing.T) {
	for _, text := range []string{"", "1 c w1 r1@1.1; 2 c w1 r1@1.1 r3@5.1"} {
		x, l := made(t, text)
		for why, wrong := range wrongTxs() {
			for _, one := range wrong {
				if got := x.Put(one); got != why {
					t.Errorf("Put of %.100s: %d, want %d", txn.Text(one), got, why)
				}
				wantIndex(t, x, l)
			}
		}
	}
}

// 13.2

func TestWhatIsFound(t *testing.T) {
	for _, text := range []string{
		"1 c w1", "1 a w1", "1 c r1@0 r1@0", "1 c w1 r1@1.1", "1 c w1 r1@1.1; 2 a w1 r1@1.1 r1@1.1", "5 a r1@2.1; 6 c r1@2.1 r1@3.1 r2@3.1",
		"1 c w1 w2 w1 w3 w1; 2 c w2 w2; 3 a w1; 4 c r1@1.3 r1@1.4 r2@2.2 r2@2.3 r1@3.1 r3@3.1 r4@1.1",
		"1 a r2@2.2 r2@2.1; 2 a w2 r1@1.1 r2@2.1", "6 c r1@5.1 r1@4.1 r3@4.2 r3@4.1 r2@4.4",
	} {
		x, l := made(t, text)
		wantIndex(t, x, l)
	}
}

func TestOfTheGreatestNumbers(t *testing.T) {
	x, _ := made(t, "1048575 c w1048575; 1048574 a r1048575@1048575.4095 r1048575@1048573.1")
	first, last := api.Version{Tx: 1048573, Key: 1048575, Nth: 1}, api.Version{Tx: 1048575, Key: 1048575, Nth: 4095}
	if got := x.Lacks(); !slices.Equal(got, []api.Version{first, last}) {
		t.Errorf("Lacks: %v", got)
	}
	if got := x.Readers(last); !slices.Equal(got, []int{1048574}) {
		t.Errorf("Readers: %v", got)
	}
	many := api.Tx{Id: 1048575, Done: true}
	for range api.MaxOps {
		many.Ops = append(many.Ops, api.Op{Key: 1048575})
	}
	if why := x.Put(many); why != api.OK || x.Writes(1048575, 1048575) != 4095 || !slices.Equal(x.Lacks(), []api.Version{first}) {
		t.Errorf("%d; Writes: %d; Lacks: %v", why, x.Writes(1048575, 1048575), x.Lacks())
	}
}

// TestOfMany needs calls that don't go through all there is, or through all that reads one version.
func TestOfMany(t *testing.T) {
	const size = 20000
	x := index.New()
	for id := size; id >= 1; id-- {
		one := api.Tx{Id: id, Done: true, Ops: []api.Op{{Key: 1}, {Key: 1 + id}, {Read: true, Key: 1, Tx: size + 1, Nth: 1}, {Read: true, Key: 1 + id%size, Tx: 1 + id%size, Nth: 1}}}
		if why := x.Put(one); why != api.OK {
			t.Fatalf("Put of %d: %d", id, why)
		}
	}
	if len(x.Ids()) != size || len(x.Writers(1)) != size || len(x.Users(size+1)) != size || len(x.Readers(api.Version{Tx: size + 1, Key: 1, Nth: 1})) != size || x.Weight() != 5*size {
		t.Errorf("%d, %d, %d, %d", len(x.Ids()), len(x.Writers(1)), len(x.Users(size+1)), x.Weight())
	}
	for id := 1; id <= size; id++ {
		if x.Drop(id) != api.OK || x.Drop(id) != api.ErrNone {
			t.Fatalf("Drop of %d", id)
		}
	}
	wantIndex(t, x, nil)
}

// 13.3

func TestOfNil(t *testing.T) {
	var x *index.Index
	wantIndex(t, x, nil)
	for _, text := range []string{"1 a", "1 c w1 r1@2.1"} {
		if why := x.Put(sample.Tx(text)); why != api.ErrState {
			t.Errorf("Put of %s: %d", text, why)
		}
	}
	for why, wrong := range wrongTxs() {
		for _, one := range wrong {
			if got := x.Put(one); got != why {
				t.Errorf("Put of %.100s: %d, want %d", txn.Text(one), got, why)
			}
		}
	}
	for _, id := range eachNumber(1, 3) {
		if why := x.Drop(id); why != api.ErrNone {
			t.Errorf("Drop of %d: %d", id, why)
		}
	}
	wantIndex(t, x, nil)
}

// 13.4

func TestByWhateverWay(t *testing.T) {
	from := rand.New(rand.NewSource(131))
	for range 60 {
		x := index.New()
		var l []api.Tx
		for range 40 {
			if one := sample.DrawTx(from.Intn); from.Intn(4) == 0 {
				want := api.ErrNone
				if slices.ContainsFunc(l, func(t api.Tx) bool { return t.Id == one.Id }) {
					want = api.OK
				}
				if why := x.Drop(one.Id); why != want {
					t.Fatalf("of %s: Drop of %d: %d", texts(l), one.Id, why)
				}
				l = dropBy(l, one.Id)
			} else if why := x.Put(one); why != txn.Right(one) {
				t.Fatalf("of %s: Put of %s: %d", texts(l), txn.Text(one), why)
			} else if why == api.OK {
				l = putBy(l, one)
			}
			wantIndex(t, x, l)
		}
		from.Shuffle(len(l), func(i, k int) { l[i], l[k] = l[k], l[i] })
		other, _ := made(t, texts(l))
		slices.SortFunc(l, func(a, b api.Tx) int { return cmp.Compare(a.Id, b.Id) })
		wantIndex(t, other, l)
	}
}

// Memory

func TestWhatIsHandedInIsNeitherChangedNorKept(t *testing.T) {
	const text = "1 c w1 r1@1.1 r1@2.1"
	x := index.New()
	one := sample.Tx(text)
	if why := x.Put(one); why != api.OK || txn.Text(one) != text {
		t.Fatalf("%d: %s", why, txn.Text(one))
	}
	one.Ops[0], one.Ops[2] = api.Op{Key: 3}, api.Op{Key: 3}
	wantIndex(t, x, []api.Tx{sample.Tx(text)})
	put(t, x, "1 a")
	wantIndex(t, x, []api.Tx{sample.Tx("1 a")})
}

func TestAnswersAreNewMemory(t *testing.T) {
	x, l := made(t, "1 c w1 r1@3.1; 2 c w1 r1@3.1; 4 a r2@1.1 r2@1.2")
	v := api.Version{Tx: 3, Key: 1, Nth: 1}
	for _, ids := range [][]int{x.Ids(), x.Writers(1), x.Readers(v), x.Users(3)} {
		for i := range ids {
			ids[i] = 777
		}
		_ = append(ids[:len(ids):cap(ids)], 777)
	}
	one, _ := x.Tx(1)
	one.Ops[0] = api.Op{Key: 4}
	lacks := x.Lacks()
	for i := range lacks {
		lacks[i] = api.Version{Tx: 7}
	}
	wantIndex(t, x, l)
	put(t, x, "5 c w1 r1@3.1")
	wantIndex(t, x, append(l, sample.Tx("5 c w1 r1@3.1")))
}
