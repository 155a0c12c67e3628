package history_test

import (
	"math/rand"
	"slices"
	"testing"

	"tenter/api"
	"tenter/history"
	"tenter/num"
	"tenter/sample"
	"tenter/txn"
)

func writeOf(key int) api.Op { return api.Op{Key: key} }

func readOf(key, tx, nth int) api.Op { return api.Op{Read: true, Key: key, Tx: tx, Nth: nth} }

// sameBy goes through all of two histories.
func sameBy(a, b api.History) bool {
	same := len(a.Txs) == len(b.Txs) && len(a.Orders) == len(b.Orders)
	for i := 0; same && i < len(a.Txs); i++ {
		x, y := a.Txs[i], b.Txs[i]
		same = x.Id == y.Id && x.Done == y.Done && slices.Equal(x.Ops, y.Ops)
	}
	for i := 0; same && i < len(a.Orders); i++ {
		same = a.Orders[i].Key == b.Orders[i].Key && slices.Equal(a.Orders[i].Txs, b.Orders[i].Txs)
	}
	return same
}

// unchanged makes a call, and looks whether it left its history alone.
func unchanged(t *testing.T, h api.History, call func()) {
	t.Helper()
	was := sample.Copy(h)
	call()
	if !sameBy(h, was) {
		t.Errorf("the history is %s, and was %s", sample.Text(h), sample.Text(was))
	}
}

// What the chapter says, once more, by going through all there is.

func hasBy(h api.History, v api.Version) bool {
	if v.Tx == 0 && v.Nth == 0 && v.Key > 0 && v.Key < 1048576 {
		return true
	}
	for _, x := range h.Txs {
		if x.Id == v.Tx {
			return v.Nth > 0 && txn.Writes(x, v.Key) >= v.Nth
		}
	}
	return false
}

func writersBy(h api.History, key int) []int {
	var ids []int
	for _, x := range h.Txs {
		if x.Done && txn.Writes(x, key) > 0 {
			ids = append(ids, x.Id)
		}
	}
	return ids
}

func rightBy(h api.History) bool {
	if len(h.Txs) > 4096 {
		return false
	}
	ordered := map[int]bool{}
	for i, o := range h.Orders {
		ids := slices.Clone(o.Txs)
		slices.Sort(ids)
		if i > 0 && h.Orders[i-1].Key >= o.Key || len(ids) == 0 || !slices.Equal(ids, writersBy(h, o.Key)) {
			return false
		}
		ordered[o.Key] = true
	}
	for i, x := range h.Txs {
		if i > 0 && h.Txs[i-1].Id >= x.Id || txn.Right(x) != api.OK {
			return false
		}
		for _, v := range txn.Needs(x) {
			if !hasBy(h, v) {
				return false
			}
		}
		for _, key := range txn.Keys(x) {
			if x.Done && !ordered[key] {
				return false
			}
		}
	}
	return true
}

func findBy(h api.History, id int) int {
	for i, x := range h.Txs {
		if x.Id == id {
			return i
		}
	}
	return -1
}

func findOrderBy(h api.History, key int) int {
	for i, o := range h.Orders {
		if o.Key == key {
			return i
		}
	}
	return -1
}

// dropBy takes a transaction out, and leaves the orders as they stand.
func dropBy(h api.History, id int) api.History {
	at := findBy(h, id)
	if at >= 0 {
		h.Txs = slices.Delete(slices.Clone(h.Txs), at, at+1)
	}
	return h
}

// putBy goes through all keys that are at hand.
func putBy(h api.History, x api.Tx) api.History {
	h = dropBy(sample.Copy(h), x.Id)
	h.Txs = append(h.Txs, x)
	slices.SortFunc(h.Txs, func(a, b api.Tx) int { return a.Id - b.Id })
	var orders []api.Order
	for key := 1; key <= 9; key++ {
		var ids []int
		if at := findOrderBy(h, key); at >= 0 {
			ids = h.Orders[at].Txs
		}
		at := slices.Index(ids, x.Id)
		if writes := x.Done && txn.Writes(x, key) > 0; writes && at < 0 {
			ids = append(ids, x.Id)
		} else if !writes && at >= 0 {
			ids = slices.Delete(ids, at, at+1)
		}
		if len(ids) > 0 {
			orders = append(orders, api.Order{Key: key, Txs: ids})
		}
	}
	h.Orders = orders
	return h
}

// neededBy tells the greatest number of a version of a key of id that another transaction needs; 0, if none does.
func neededBy(h api.History, id, key int) int {
	most := 0
	for _, x := range h.Txs {
		for _, o := range x.Ops {
			if x.Id != id && o.Read && o.Tx == id && o.Key == key {
				most = max(most, o.Nth)
			}
		}
	}
	return most
}

// lacksBy tells whether x needs what is not there.
func lacksBy(h api.History, x api.Tx) bool {
	for _, v := range txn.Needs(x) {
		if !hasBy(h, v) {
			return true
		}
	}
	return false
}

// usedBy tells whether more of x's versions are needed than it writes.
func usedBy(h api.History, x api.Tx) bool {
	for key := 1; key <= 9; key++ {
		if neededBy(h, x.Id, key) > txn.Writes(x, key) {
			return true
		}
	}
	return false
}

func insertBy(h api.History, x api.Tx) (api.History, api.Errno) {
	why := txn.Right(x)
	switch {
	case !rightBy(h):
		return api.History{}, api.ErrForm
	case why != api.OK:
		return api.History{}, why
	case findBy(h, x.Id) >= 0:
		return api.History{}, api.ErrThere
	case lacksBy(h, x):
		return api.History{}, api.ErrRead
	case len(h.Txs) >= 4096:
		return api.History{}, api.ErrFull
	}
	return putBy(h, x), api.OK
}

func deleteBy(h api.History, id int) (api.History, api.Errno) {
	switch {
	case !rightBy(h):
		return api.History{}, api.ErrForm
	case findBy(h, id) < 0:
		return api.History{}, api.ErrNone
	case usedBy(h, api.Tx{Id: id}):
		return api.History{}, api.ErrUsed
	}
	return dropBy(putBy(h, api.Tx{Id: id}), id), api.OK
}

func amendBy(h api.History, x api.Tx) (api.History, api.Errno) {
	why := txn.Right(x)
	switch {
	case !rightBy(h):
		return api.History{}, api.ErrForm
	case why != api.OK:
		return api.History{}, why
	case findBy(h, x.Id) < 0:
		return api.History{}, api.ErrNone
	case lacksBy(h, x):
		return api.History{}, api.ErrRead
	case usedBy(h, x):
		return api.History{}, api.ErrUsed
	}
	return putBy(h, x), api.OK
}

func reorderBy(h api.History, o api.Order) (api.History, api.Errno) {
	at := findOrderBy(h, o.Key)
	if !rightBy(h) {
		return api.History{}, api.ErrForm
	}
	if at < 0 {
		return api.History{}, api.ErrNone
	}
	was, is := slices.Clone(h.Orders[at].Txs), slices.Clone(o.Txs)
	slices.Sort(was)
	slices.Sort(is)
	if !slices.Equal(was, is) {
		return api.History{}, api.ErrOrder
	}
	h = sample.Copy(h)
	h.Orders[at].Txs = o.Txs
	return h, api.OK
}

func moveBy(h api.History, key, id, place int) (api.History, api.Errno) {
	at := findOrderBy(h, key)
	if !rightBy(h) {
		return api.History{}, api.ErrForm
	}
	if at < 0 {
		return api.History{}, api.ErrNone
	}
	h = sample.Copy(h)
	ids := h.Orders[at].Txs
	was := slices.Index(ids, id)
	if was < 0 {
		return api.History{}, api.ErrNone
	}
	if place < 0 || place >= len(ids) {
		return api.History{}, api.ErrRange
	}
	h.Orders[at].Txs = slices.Insert(slices.Delete(ids, was, was+1), place, id)
	return h, api.OK
}

// An edit is a call, what the chapter says it tells, and what it names.
type edit struct {
	name string
	id   int
	do   func(h api.History) (api.History, api.Errno)
	by   func(h api.History) (api.History, api.Errno)
}

func inserting(x api.Tx) edit {
	return edit{"Insert of " + txn.Text(x), x.Id,
		func(h api.History) (api.History, api.Errno) { return history.Insert(h, x) },
		func(h api.History) (api.History, api.Errno) { return insertBy(h, x) }}
}

func deleting(id int) edit {
	return edit{"Delete of " + num.Text(id), id,
		func(h api.History) (api.History, api.Errno) { return history.Delete(h, id) },
		func(h api.History) (api.History, api.Errno) { return deleteBy(h, id) }}
}

func amending(x api.Tx) edit {
	return edit{"Amend to " + txn.Text(x), x.Id,
		func(h api.History) (api.History, api.Errno) { return history.Amend(h, x) },
		func(h api.History) (api.History, api.Errno) { return amendBy(h, x) }}
}

func reordering(o api.Order) edit {
	return edit{"Reorder to " + sample.Text(api.History{Orders: []api.Order{o}}), 0,
		func(h api.History) (api.History, api.Errno) { return history.Reorder(h, o) },
		func(h api.History) (api.History, api.Errno) { return reorderBy(h, o) }}
}

func moving(key, id, place int) edit {
	return edit{"Move of " + num.Words([]int{key, id, place}), id,
		func(h api.History) (api.History, api.Errno) { return history.Move(h, key, id, place) },
		func(h api.History) (api.History, api.Errno) { return moveBy(h, key, id, place) }}
}

// wantEdit looks at what an edit tells, and hands it on.
func wantEdit(t *testing.T, h api.History, e edit, want api.History, wantWhy api.Errno) api.History {
	t.Helper()
	var got api.History
	unchanged(t, h, func() {
		var why api.Errno
		if got, why = e.do(h); why != wantWhy || !sameBy(got, want) {
			t.Errorf("of %s: %s: %s, %d; want %s, %d", sample.Text(h), e.name, sample.Text(got), why, sample.Text(want), wantWhy)
		}
	})
	return got
}

func wantWhy(t *testing.T, h api.History, e edit, why api.Errno) {
	t.Helper()
	wantEdit(t, h, e, api.History{}, why)
}

func wantText(t *testing.T, h api.History, e edit, text string) {
	t.Helper()
	wantEdit(t, h, e, sample.History(text), api.OK)
}

func anyEdit(h api.History, from *rand.Rand) edit {
	switch from.Intn(8) {
	case 0, 1, 2:
		return inserting(sample.DrawTx(from.Intn))
	case 3, 4:
		return amending(sample.DrawTx(from.Intn))
	case 5:
		return deleting(from.Intn(8))
	case 6:
		return moving(from.Intn(6), from.Intn(8), from.Intn(7)-1)
	default:
		o := api.Order{Key: from.Intn(6), Txs: slices.Clone(history.Order(h, 1+from.Intn(5)))}
		if from.Intn(4) > 0 {
			o.Txs = slices.Clone(history.Order(h, o.Key))
		}
		from.Shuffle(len(o.Txs), func(i, k int) { o.Txs[i], o.Txs[k] = o.Txs[k], o.Txs[i] })
		return reordering(o)
	}
}

// eachEdit goes through right histories, as edits lead from one to the next.
func eachEdit(t *testing.T, seed int64, rounds int, look func(h api.History, e edit, from *rand.Rand)) {
	t.Helper()
	from := rand.New(rand.NewSource(seed))
	for range rounds {
		var h api.History
		for range 60 {
			e := anyEdit(h, from)
			look(h, e, from)
			if t.Failed() {
				return
			}
			if next, why := e.by(h); why == api.OK {
				h = sample.Copy(next)
			}
		}
	}
}

// spoilt is a history with one thing that may not be, mostly.
func spoilt(h api.History, from *rand.Rand) api.History {
	h = sample.Copy(h)
	if len(h.Txs) == 0 || len(h.Orders) == 0 {
		return api.History{Orders: []api.Order{{Key: 1}}}
	}
	x, o := &h.Txs[from.Intn(len(h.Txs))], &h.Orders[from.Intn(len(h.Orders))]
	switch from.Intn(10) {
	case 0:
		x.Id = from.Intn(8)
	case 1:
		x.Done = !x.Done
	case 2:
		x.Ops = append(x.Ops, sample.DrawTx(from.Intn).Ops...)
	case 3:
		x.Ops = x.Ops[:from.Intn(len(x.Ops)+1)]
	case 4:
		o.Key = from.Intn(6)
	case 5:
		o.Txs[from.Intn(len(o.Txs))] = from.Intn(8)
	case 6:
		o.Txs = append(o.Txs, from.Intn(8))
	case 7:
		h.Orders = h.Orders[:len(h.Orders)-1]
	case 8:
		h.Orders = append(h.Orders, api.Order{Key: 9})
	default:
		h.Txs = append(h.Txs, sample.DrawTx(from.Intn))
	}
	return h
}
