package depgraph

import (
	"slices"

	"tenter/api"
)

// A change touches edges and bad reads of the keys of its delta alone. So it is enough to look at what two histories have of these, however much else they have.

func keySet(l []int) map[int]bool {
	keys := map[int]bool{}
	for _, key := range l {
		keys[key] = true
	}
	return keys
}

// part tells a history that has, of those keys, the edges and bad reads of h, and none else; it is right, if h is. Who does nothing to the keys is not in it.
func part(h api.History, keys map[int]bool) api.History {
	var some api.History
	for _, t := range h.Txs {
		if slices.ContainsFunc(t.Ops, func(o api.Op) bool { return keys[o.Key] }) {
			t.Ops = masked(t.Ops, keys)
			some.Txs = append(some.Txs, t)
		}
	}
	for _, o := range h.Orders {
		if keys[o.Key] {
			some.Orders = append(some.Orders, o)
		}
	}
	return some
}

// masked tells operations with those of other keys turned to reads of what was there at first: these keep the others in their places, and no edge comes of them, where nobody writes the key.
func masked(ops []api.Op, keys map[int]bool) []api.Op {
	var l []api.Op
	for _, o := range ops {
		if !keys[o.Key] {
			o = api.Op{Read: true, Key: o.Key}
		}
		l = append(l, o)
	}
	return l
}
