package history

import (
	"slices"

	"tenter/api"
	"tenter/order"
	"tenter/txn"
)

// write is who writes a key.
type write struct{ tx, key int }

// counts is how often each transaction writes each key.
type counts map[write]int

func countWrites(l []api.Tx) counts {
	wrote := counts{}
	for _, t := range l {
		for _, o := range t.Ops {
			if !o.Read {
				wrote[write{t.Id, o.Key}]++
			}
		}
	}
	return wrote
}

// lacks tells whether a version of a transaction is not there.
func (c counts) lacks(v api.Version) bool { return c[write{v.Tx, v.Key}] < v.Nth }

// look tells how often each transaction of h writes each key, and whether h is right; the counts, if it is.
func look(h api.History) (counts, bool) {
	if len(h.Txs) > api.MaxTxs || !eachRight(h.Txs) {
		return nil, false
	}
	wrote := countWrites(h.Txs)
	if anyNeeds(h.Txs, wrote.lacks) || !ordersRight(h.Orders, writersOf(h.Txs)) {
		return nil, false
	}
	return wrote, true
}

// eachRight tells whether the ids rise, and each transaction is right.
func eachRight(l []api.Tx) bool {
	last := 0
	for _, t := range l {
		if t.Id <= last || txn.Right(t) != api.OK {
			return false
		}
		last = t.Id
	}
	return true
}

// anyNeeds tells whether one of the transactions needs a version of which is holds.
func anyNeeds(l []api.Tx, is func(v api.Version) bool) bool {
	return slices.ContainsFunc(l, func(t api.Tx) bool { return slices.ContainsFunc(txn.Needs(t), is) })
}

// writersOf tells the ids of the writers of each key that has one.
func writersOf(l []api.Tx) map[int][]int {
	writers := map[int][]int{}
	for _, t := range l {
		if !t.Done {
			continue
		}
		for _, key := range txn.Keys(t) {
			writers[key] = append(writers[key], t.Id)
		}
	}
	return writers
}

// ordersRight tells whether the keys rise, and the orders are of just these writers. Since keys that rise are no two alike, it is enough to count them.
func ordersRight(l []api.Order, writers map[int][]int) bool {
	if len(l) != len(writers) {
		return false
	}
	last := 0
	for _, o := range l {
		ids := writers[o.Key]
		if o.Key <= last || len(ids) == 0 || !order.Perm(o.Txs, ids) {
			return false
		}
		last = o.Key
	}
	return true
}
