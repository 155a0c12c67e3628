package history

import (
	"cmp"
	"slices"

	"tenter/api"
	"tenter/order"
	"tenter/txn"
)

// placeOf tells where the first transaction of an id stands; -1, if there is none.
func placeOf(l []api.Tx, id int) int {
	return slices.IndexFunc(l, func(t api.Tx) bool { return t.Id == id })
}

// placeOfOrder tells where the first order of a key stands; -1, if there is none.
func placeOfOrder(l []api.Order, key int) int {
	return slices.IndexFunc(l, func(o api.Order) bool { return o.Key == key })
}

// copyOf tells t, with operations of its own.
func copyOf(t api.Tx) api.Tx {
	t.Ops = slices.Clone(t.Ops)
	return t
}

func copies(l []api.Tx) []api.Tx {
	var all []api.Tx
	for _, t := range l {
		all = append(all, copyOf(t))
	}
	return all
}

// put tells a right history with t in it, or in the place of that of its id.
func put(h api.History, t api.Tx) api.History {
	var keys []int
	if t.Done {
		keys = txn.Keys(t)
	}
	writes := map[int]bool{}
	for _, key := range keys {
		writes[key] = true
	}
	return api.History{
		Txs: withTx(h.Txs, t),
		Orders: remade(withKeys(h.Orders, keys), func(o api.Order) []int {
			if writes[o.Key] {
				return order.With(o.Txs, t.Id)
			}
			return order.Without(o.Txs, t.Id)
		}),
	}
}

// withTx tells copies of l, with t by its id, or in the place of that of its id.
func withTx(l []api.Tx, t api.Tx) []api.Tx {
	all := copies(l)
	at, is := slices.BinarySearchFunc(all, t.Id, func(x api.Tx, id int) int { return cmp.Compare(x.Id, id) })
	if is {
		all[at] = copyOf(t)
		return all
	}
	return slices.Insert(all, at, copyOf(t))
}

// withKeys tells l with empty orders of those keys that have none, by rising keys.
func withKeys(l []api.Order, keys []int) []api.Order {
	met := map[int]bool{}
	for _, o := range l {
		met[o.Key] = true
	}
	all := slices.Clone(l)
	for _, key := range keys {
		if !met[key] {
			all = append(all, api.Order{Key: key})
		}
	}
	slices.SortFunc(all, func(a, b api.Order) int { return cmp.Compare(a.Key, b.Key) })
	return all
}

// remade tells the orders as change makes them of l's; those without ids go. What change tells must be new memory.
func remade(l []api.Order, change func(o api.Order) []int) []api.Order {
	var all []api.Order
	for _, o := range l {
		if txs := change(o); len(txs) > 0 {
			all = append(all, api.Order{Key: o.Key, Txs: txs})
		}
	}
	return all
}

// turn tells h with what change makes of the order of a key in its place; if there is none, or change has an error, that.
func turn(h api.History, key int, change func(l []int) ([]int, api.Errno)) (api.History, api.Errno) {
	if !Right(h) {
		return api.History{}, api.ErrForm
	}
	at := placeOfOrder(h.Orders, key)
	if at < 0 {
		return api.History{}, api.ErrNone
	}
	txs, why := change(h.Orders[at].Txs)
	if why != api.OK {
		return api.History{}, why
	}
	orders := remade(h.Orders, func(o api.Order) []int {
		if o.Key == key {
			return slices.Clone(txs)
		}
		return slices.Clone(o.Txs)
	})
	return api.History{Txs: copies(h.Txs), Orders: orders}, api.OK
}
