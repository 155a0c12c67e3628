package store

import (
	"maps"
	"slices"

	"tenter/api"
	"tenter/arena"
	"tenter/pmap"
	"tenter/pseq"
)

// turn makes of the history what a delta that fits makes of it.
func (s *Store) turn(d api.Delta) {
	for _, t := range d.Was {
		takeOut(s, &s.now.txs, s.txs, t.Id)
	}
	for _, o := range d.Old {
		takeOut(s, &s.now.orders, s.orders, o.Key)
	}
	for _, t := range d.Now {
		t.Ops = slices.Clone(t.Ops)
		putIn(s, &s.now.txs, s.txs, t.Id, t)
	}
	for _, o := range d.New {
		seq := fit(s, func() (pseq.Seq, api.Errno) { return pseq.Of(s.cells, o.Txs...) })
		putIn(s, &s.now.orders, s.orders, o.Key, seq)
	}
}

// takeOut takes what stands under an id out of a map of the history.
func takeOut[T any](s *Store, m *pmap.Map, on *shelf[T], id int) {
	n, _ := m.Get(id)
	on.leave(n)
	*m = fit(s, func() (pmap.Map, api.Errno) { return m.Del(id) })
}

// putIn puts a new thing under an id of a map of the history.
func putIn[T any](s *Store, m *pmap.Map, on *shelf[T], id int, thing T) {
	n := on.put(thing)
	*m = fit(s, func() (pmap.Map, api.Errno) { return m.Put(id, n) })
}

// fit tells what is built in the arena; if that lacks room, it is built once more in a new one. There is enough in that: what is held, ahead of a Do and behind it, takes two times MaxHeld cells at most, and a step, or an order, far less than the others.
func fit[T any](s *Store, build func() (T, api.Errno)) T {
	built, why := build()
	if why == api.ErrFull {
		s.renew()
		built, _ = build()
	}
	return built
}

// renew moves all that is held to a new arena, and leaves the cells behind that nothing needs any more.
func (s *Store) renew() {
	s.cells = arena.New(api.MaxCells)
	s.now.move(s.cells)
	for _, n := range slices.Sorted(maps.Keys(s.kept)) {
		s.kept[n].move(s.cells)
	}
	for _, n := range slices.Sorted(maps.Keys(s.orders.items)) {
		seq, _ := s.orders.get(n).Move(s.cells)
		s.orders.set(n, seq)
	}
}
