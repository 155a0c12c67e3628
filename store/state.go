package store

import (
	"tenter/api"
	"tenter/arena"
	"tenter/pmap"
)

// state is one history: where its transactions, by ids, and its orders, by keys, stand on the shelves, and its size.
type state struct {
	txs    pmap.Map
	orders pmap.Map
	size   int
}

func newState(a *arena.Arena) state { return state{txs: pmap.New(a), orders: pmap.New(a)} }

// move lays the maps into another arena, which has room for them.
func (x *state) move(a *arena.Arena) {
	x.txs, _ = x.txs.Move(a)
	x.orders, _ = x.orders.Move(a)
}

// sizeOf tells the size of a history: as many cells as one needs that shares none with others.
func sizeOf(h api.History) int {
	size := len(h.Txs) + len(h.Orders)
	for _, o := range h.Orders {
		size += len(o.Txs)
	}
	return size
}

// share tells the shelves that there is another history like x.
func (s *Store) share(x state) {
	each(x.txs, s.txs.share)
	each(x.orders, s.orders.share)
}

// leave tells the shelves that there is one less like x.
func (s *Store) leave(x state) {
	each(x.txs, s.txs.leave)
	each(x.orders, s.orders.leave)
}

// each does something to all values of a map.
func each(m pmap.Map, do func(val int)) {
	for _, p := range m.List() {
		do(p.Val)
	}
}
