package history_test

import (
	"math/rand"
	"slices"
	"strings"
	"testing"

	"tenter/api"
	"tenter/history"
	"tenter/num"
	"tenter/op"
	"tenter/txn"
)

func writeOf(key int) api.Op { return api.Op{Key: key} }

func readOf(key, tx, nth int) api.Op { return api.Op{Read: true, Key: key, Tx: tx, Nth: nth} }

func number(t *testing.T, text string) int {
	t.Helper()
	n, why := num.Read(text)
	if why != api.OK {
		t.Fatalf("Read of %q: %d", text, why)
	}
	return n
}

// txOf reads a transaction: 3 c w5 r5@3.1.
func txOf(t *testing.T, text string) api.Tx {
	t.Helper()
	words := strings.Fields(text)
	x := api.Tx{Id: number(t, words[0]), Done: words[1] == "c"}
	for _, word := range words[2:] {
		o, why := op.Read(word)
		if why != api.OK {
			t.Fatalf("Read of %q: %d", word, why)
		}
		x.Ops = append(x.Ops, o)
	}
	return x
}

// orderOf reads an order: 5: 2 1.
func orderOf(t *testing.T, text string) api.Order {
	t.Helper()
	key, ids, _ := strings.Cut(text, ":")
	o := api.Order{Key: number(t, strings.TrimSpace(key))}
	for _, id := range strings.Fields(ids) {
		o.Txs = append(o.Txs, number(t, id))
	}
	return o
}

// historyOf reads transactions and orders with ; between: 1 c w5; 2 a w5 r5@1.1; 5: 1. Nothing is put right.
func historyOf(t *testing.T, text string) api.History {
	t.Helper()
	var h api.History
	for _, part := range strings.Split(text, ";") {
		if strings.Contains(part, ":") {
			h.Orders = append(h.Orders, orderOf(t, part))
		} else if strings.TrimSpace(part) != "" {
			h.Txs = append(h.Txs, txOf(t, part))
		}
	}
	return h
}

// textOf tells a history as historyOf reads it; it is what histories are held against one another by.
func textOf(h api.History) string {
	var parts []string
	for _, x := range h.Txs {
		parts = append(parts, txn.Text(x))
	}
	for _, o := range h.Orders {
		parts = append(parts, strings.TrimSpace(num.Text(o.Key)+": "+num.Words(o.Txs)))
	}
	text := strings.Join(parts, "; ")
	if len(text) > 300 {
		return text[:300] + " .."
	}
	return text
}

// sameBy goes through all of two histories.
func sameBy(a, b api.History) bool {
	same := len(a.Txs) == len(b.Txs) && len(a.Orders) == len(b.Orders)
	for i := 0; same && i < len(a.Txs); i++ {
		x, y := a.Txs[i], b.Txs[i]
		same = x.Id == y.Id && x.Done == y.Done && slices.Equal(x.Ops, y.Ops)
	}
	for i := 0; same && i < len(a.Orders); i++ {
		same = a.Orders[i].Key == b.Orders[i].Key && slices.Equal(a.Orders[i].Txs, b.Orders[i].Txs)
	}
	return same
}

func clone(h api.History) api.History {
	var c api.History
	for _, x := range h.Txs {
		c.Txs = append(c.Txs, api.Tx{Id: x.Id, Done: x.Done, Ops: slices.Clone(x.Ops)})
	}
	for _, o := range h.Orders {
		c.Orders = append(c.Orders, api.Order{Key: o.Key, Txs: slices.Clone(o.Txs)})
	}
	return c
}

// unchanged makes a call, and looks whether it left its history alone.
func unchanged(t *testing.T, h api.History, call func()) {
	t.Helper()
	was := clone(h)
	call()
	if !sameBy(h, was) {
		t.Errorf("the history is %s, and was %s", textOf(h), textOf(was))
	}
}

// spoil changes all memory of a history.
func spoil(h api.History) {
	for i := range h.Txs {
		for k := range h.Txs[i].Ops {
			h.Txs[i].Ops[k] = writeOf(777)
		}
		h.Txs[i] = api.Tx{Id: 777}
	}
	for i := range h.Orders {
		for k := range h.Orders[i].Txs {
			h.Orders[i].Txs[k] = 777
		}
		h.Orders[i] = api.Order{Key: 777}
	}
}

// What the chapter says, once more, by going through all there is.

func hasBy(h api.History, v api.Version) bool {
	if v.Tx == 0 && v.Nth == 0 && v.Key > 0 && v.Key < 1048576 {
		return true
	}
	for _, x := range h.Txs {
		if x.Id == v.Tx {
			return v.Nth > 0 && txn.Writes(x, v.Key) >= v.Nth
		}
	}
	return false
}

func writersBy(h api.History, key int) []int {
	var ids []int
	for _, x := range h.Txs {
		if x.Done && txn.Writes(x, key) > 0 {
			ids = append(ids, x.Id)
		}
	}
	return ids
}

func rightBy(h api.History) bool {
	if len(h.Txs) > 4096 {
		return false
	}
	ordered := map[int]bool{}
	for i, o := range h.Orders {
		ids := slices.Clone(o.Txs)
		slices.Sort(ids)
		if i > 0 && h.Orders[i-1].Key >= o.Key || len(ids) == 0 || !slices.Equal(ids, writersBy(h, o.Key)) {
			return false
		}
		ordered[o.Key] = true
	}
	for i, x := range h.Txs {
		if i > 0 && h.Txs[i-1].Id >= x.Id || txn.Right(x) != api.OK {
			return false
		}
		for _, v := range txn.Needs(x) {
			if !hasBy(h, v) {
				return false
			}
		}
		for _, key := range txn.Keys(x) {
			if x.Done && !ordered[key] {
				return false
			}
		}
	}
	return true
}

func findBy(h api.History, id int) int {
	for i, x := range h.Txs {
		if x.Id == id {
			return i
		}
	}
	return -1
}

func findOrderBy(h api.History, key int) int {
	for i, o := range h.Orders {
		if o.Key == key {
			return i
		}
	}
	return -1
}

// dropBy takes a transaction out, and leaves the orders as they stand.
func dropBy(h api.History, id int) api.History {
	at := findBy(h, id)
	if at >= 0 {
		h.Txs = slices.Delete(slices.Clone(h.Txs), at, at+1)
	}
	return h
}

// putBy goes through all keys that are at hand.
func putBy(h api.History, x api.Tx) api.History {
	h = dropBy(clone(h), x.Id)
	h.Txs = append(h.Txs, x)
	slices.SortFunc(h.Txs, func(a, b api.Tx) int { return a.Id - b.Id })
	var orders []api.Order
	for key := 1; key <= 9; key++ {
		var ids []int
		if at := findOrderBy(h, key); at >= 0 {
			ids = h.Orders[at].Txs
		}
		at := slices.Index(ids, x.Id)
		if writes := x.Done && txn.Writes(x, key) > 0; writes && at < 0 {
			ids = append(ids, x.Id)
		} else if !writes && at >= 0 {
			ids = slices.Delete(ids, at, at+1)
		}
		if len(ids) > 0 {
			orders = append(orders, api.Order{Key: key, Txs: ids})
		}
	}
	h.Orders = orders
	return h
}

// neededBy tells the greatest number of a version of a key of id that another transaction needs; 0, if none does.
func neededBy(h api.History, id, key int) int {
	most := 0
	for _, x := range h.Txs {
		for _, o := range x.Ops {
			if x.Id != id && o.Read && o.Tx == id && o.Key == key {
				most = max(most, o.Nth)
			}
		}
	}
	return most
}

// lacksBy tells whether x needs what is not there.
func lacksBy(h api.History, x api.Tx) bool {
	for _, v := range txn.Needs(x) {
		if !hasBy(h, v) {
			return true
		}
	}
	return false
}

// usedBy tells whether more of x's versions are needed than it writes.
func usedBy(h api.History, x api.Tx) bool {
	for key := 1; key <= 9; key++ {
		if neededBy(h, x.Id, key) > txn.Writes(x, key) {
			return true
		}
	}
	return false
}

func insertBy(h api.History, x api.Tx) (api.History, api.Errno) {
	why := txn.Right(x)
	switch {
	case !rightBy(h):
		return api.History{}, api.ErrForm
	case why != api.OK:
		return api.History{}, why
	case findBy(h, x.Id) >= 0:
		return api.History{}, api.ErrThere
	case lacksBy(h, x):
		return api.History{}, api.ErrRead
	case len(h.Txs) >= 4096:
		return api.History{}, api.ErrFull
	}
	return putBy(h, x), api.OK
}

func deleteBy(h api.History, id int) (api.History, api.Errno) {
	switch {
	case !rightBy(h):
		return api.History{}, api.ErrForm
	case findBy(h, id) < 0:
		return api.History{}, api.ErrNone
	case usedBy(h, api.Tx{Id: id}):
		return api.History{}, api.ErrUsed
	}
	return dropBy(putBy(h, api.Tx{Id: id}), id), api.OK
}

func amendBy(h api.History, x api.Tx) (api.History, api.Errno) {
	why := txn.Right(x)
	switch {
	case !rightBy(h):
		return api.History{}, api.ErrForm
	case why != api.OK:
		return api.History{}, why
	case findBy(h, x.Id) < 0:
		return api.History{}, api.ErrNone
	case lacksBy(h, x):
		return api.History{}, api.ErrRead
	case usedBy(h, x):
		return api.History{}, api.ErrUsed
	}
	return putBy(h, x), api.OK
}

func reorderBy(h api.History, o api.Order) (api.History, api.Errno) {
	at := findOrderBy(h, o.Key)
	if !rightBy(h) {
		return api.History{}, api.ErrForm
	}
	if at < 0 {
		return api.History{}, api.ErrNone
	}
	was, is := slices.Clone(h.Orders[at].Txs), slices.Clone(o.Txs)
	slices.Sort(was)
	slices.Sort(is)
	if !slices.Equal(was, is) {
		return api.History{}, api.ErrOrder
	}
	h = clone(h)
	h.Orders[at].Txs = o.Txs
	return h, api.OK
}

func moveBy(h api.History, key, id, place int) (api.History, api.Errno) {
	at := findOrderBy(h, key)
	if !rightBy(h) {
		return api.History{}, api.ErrForm
	}
	if at < 0 {
		return api.History{}, api.ErrNone
	}
	h = clone(h)
	ids := h.Orders[at].Txs
	was := slices.Index(ids, id)
	if was < 0 {
		return api.History{}, api.ErrNone
	}
	if place < 0 || place >= len(ids) {
		return api.History{}, api.ErrRange
	}
	h.Orders[at].Txs = slices.Insert(slices.Delete(ids, was, was+1), place, id)
	return h, api.OK
}

// An edit is a call, what the chapter says it tells, and what it names.
type edit struct {
	name string
	id   int
	do   func(h api.History) (api.History, api.Errno)
	by   func(h api.History) (api.History, api.Errno)
}

func inserting(x api.Tx) edit {
	return edit{"Insert of " + txn.Text(x), x.Id,
		func(h api.History) (api.History, api.Errno) { return history.Insert(h, x) },
		func(h api.History) (api.History, api.Errno) { return insertBy(h, x) }}
}

func deleting(id int) edit {
	return edit{"Delete of " + num.Text(id), id,
		func(h api.History) (api.History, api.Errno) { return history.Delete(h, id) },
		func(h api.History) (api.History, api.Errno) { return deleteBy(h, id) }}
}

func amending(x api.Tx) edit {
	return edit{"Amend to " + txn.Text(x), x.Id,
		func(h api.History) (api.History, api.Errno) { return history.Amend(h, x) },
		func(h api.History) (api.History, api.Errno) { return amendBy(h, x) }}
}

func reordering(o api.Order) edit {
	return edit{"Reorder to " + textOf(api.History{Orders: []api.Order{o}}), 0,
		func(h api.History) (api.History, api.Errno) { return history.Reorder(h, o) },
		func(h api.History) (api.History, api.Errno) { return reorderBy(h, o) }}
}

func moving(key, id, place int) edit {
	return edit{"Move of " + num.Words([]int{key, id, place}), id,
		func(h api.History) (api.History, api.Errno) { return history.Move(h, key, id, place) },
		func(h api.History) (api.History, api.Errno) { return moveBy(h, key, id, place) }}
}

// wantEdit looks at what an edit tells, and hands it on.
func wantEdit(t *testing.T, h api.History, e edit, want api.History, wantWhy api.Errno) api.History {
	t.Helper()
	var got api.History
	unchanged(t, h, func() {
		var why api.Errno
		if got, why = e.do(h); why != wantWhy || !sameBy(got, want) {
			t.Errorf("of %s: %s: %s, %d; want %s, %d", textOf(h), e.name, textOf(got), why, textOf(want), wantWhy)
		}
	})
	return got
}

func wantWhy(t *testing.T, h api.History, e edit, why api.Errno) {
	t.Helper()
	wantEdit(t, h, e, api.History{}, why)
}

func wantText(t *testing.T, h api.History, e edit, text string) {
	t.Helper()
	wantEdit(t, h, e, historyOf(t, text), api.OK)
}

// anyTx is a transaction of few ids and keys; some of what it reads is not there.
func anyTx(from *rand.Rand) api.Tx {
	x := api.Tx{Id: 1 + from.Intn(6), Done: from.Intn(3) > 0}
	for range from.Intn(7) {
		key := 1 + from.Intn(3)
		switch from.Intn(6) {
		case 0:
			x.Ops = append(x.Ops, readOf(key, 0, 0))
		case 1:
			x.Ops = append(x.Ops, readOf(key, 1+from.Intn(6), 1+from.Intn(2)))
		default:
			x.Ops = append(x.Ops, writeOf(key))
		}
	}
	if from.Intn(40) == 0 {
		x.Ops = append(x.Ops, writeOf(-1))
	}
	return x
}

func anyEdit(h api.History, from *rand.Rand) edit {
	switch from.Intn(8) {
	case 0, 1, 2:
		return inserting(anyTx(from))
	case 3, 4:
		return amending(anyTx(from))
	case 5:
		return deleting(from.Intn(8))
	case 6:
		return moving(from.Intn(6), from.Intn(8), from.Intn(7)-1)
	default:
		o := api.Order{Key: from.Intn(6), Txs: slices.Clone(history.Order(h, 1+from.Intn(5)))}
		if from.Intn(4) > 0 {
			o.Txs = slices.Clone(history.Order(h, o.Key))
		}
		from.Shuffle(len(o.Txs), func(i, k int) { o.Txs[i], o.Txs[k] = o.Txs[k], o.Txs[i] })
		return reordering(o)
	}
}

// eachEdit goes through right histories, as edits lead from one to the next.
func eachEdit(t *testing.T, seed int64, rounds int, look func(h api.History, e edit, from *rand.Rand)) {
	t.Helper()
	from := rand.New(rand.NewSource(seed))
	for range rounds {
		var h api.History
		for range 60 {
			e := anyEdit(h, from)
			look(h, e, from)
			if t.Failed() {
				return
			}
			if next, why := e.by(h); why == api.OK {
				h = clone(next)
			}
		}
	}
}

// spoilt is a history with one thing that may not be, mostly.
func spoilt(h api.History, from *rand.Rand) api.History {
	h = clone(h)
	if len(h.Txs) == 0 || len(h.Orders) == 0 {
		return api.History{Orders: []api.Order{{Key: 1}}}
	}
	x, o := &h.Txs[from.Intn(len(h.Txs))], &h.Orders[from.Intn(len(h.Orders))]
	switch from.Intn(10) {
	case 0:
		x.Id = from.Intn(8)
	case 1:
		x.Done = !x.Done
	case 2:
		x.Ops = append(x.Ops, anyTx(from).Ops...)
	case 3:
		x.Ops = x.Ops[:from.Intn(len(x.Ops)+1)]
	case 4:
		o.Key = from.Intn(6)
	case 5:
		o.Txs[from.Intn(len(o.Txs))] = from.Intn(8)
	case 6:
		o.Txs = append(o.Txs, from.Intn(8))
	case 7:
		h.Orders = h.Orders[:len(h.Orders)-1]
	case 8:
		h.Orders = append(h.Orders, api.Order{Key: 9})
	default:
		h.Txs = append(h.Txs, anyTx(from))
	}
	return h
}
