package delta

import (
	"maps"
	"slices"

	"tenter/api"
	"tenter/order"
	"tenter/txn"
)

// kind is what calls on lists of transactions, or of orders, ask of what stands in them. What a thing is known by is its id, of an order the key.
type kind[T any] struct {
	id   func(x T) int
	same func(a, b T) bool
	copy func(x T) T
}

func txs() kind[api.Tx] {
	return kind[api.Tx]{
		id:   func(t api.Tx) int { return t.Id },
		same: txn.Same,
		copy: func(t api.Tx) api.Tx {
			t.Ops = slices.Clone(t.Ops)
			return t
		},
	}
}

func orders() kind[api.Order] {
	return kind[api.Order]{
		id:   func(o api.Order) int { return o.Key },
		same: func(a, b api.Order) bool { return a.Key == b.Key && order.Same(a.Txs, b.Txs) },
		copy: func(o api.Order) api.Order {
			o.Txs = slices.Clone(o.Txs)
			return o
		},
	}
}

// rise tells whether the ids rise.
func rise[T any](k kind[T], l []T) bool {
	for i := 1; i < len(l); i++ {
		if k.id(l[i-1]) >= k.id(l[i]) {
			return false
		}
	}
	return true
}

// same tells whether two lists are the same, one by one.
func same[T any](k kind[T], a, b []T) bool { return slices.EqualFunc(a, b, k.same) }

func copies[T any](k kind[T], l []T) []T {
	var all []T
	for _, x := range l {
		all = append(all, k.copy(x))
	}
	return all
}

// found tells the things of a list, whose ids rise, by their ids.
func found[T any](k kind[T], l []T) map[int]T {
	by := map[int]T{}
	for _, x := range l {
		by[k.id(x)] = x
	}
	return by
}

// listed tells copies of all, by rising ids.
func listed[T any](k kind[T], by map[int]T) []T {
	var l []T
	for _, id := range slices.Sorted(maps.Keys(by)) {
		l = append(l, k.copy(by[id]))
	}
	return l
}

// alike tells whether a and b have the same of an id, which may be nothing.
func alike[T any](k kind[T], a, b map[int]T, id int) bool {
	x, is := a[id]
	y, isToo := b[id]
	return is == isToo && k.same(x, y)
}

// turned tells l without those of was, and with those of now, and whether these fit it.
func turned[T any](k kind[T], l, was, now []T) ([]T, bool) {
	all, gone := found(k, l), found(k, was)
	for id := range gone {
		if !alike(k, all, gone, id) {
			return nil, false
		}
		delete(all, id)
	}
	for _, x := range now {
		if _, is := all[k.id(x)]; is {
			return nil, false
		}
		all[k.id(x)] = x
	}
	return listed(k, all), true
}
