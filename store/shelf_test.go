package store

import (
	"maps"
	"math/rand"
	"testing"

	"tenter/api"
	"tenter/delta"
	"tenter/pmap"
	"tenter/sample"
)

// users tells how many histories have each number.
func users(s *Store, of func(x state) pmap.Map) map[int]int {
	count := map[int]int{}
	each(of(s.now), func(n int) { count[n]++ })
	for _, x := range s.kept {
		each(of(*x), func(n int) { count[n]++ })
	}
	return count
}

func counts[T any](on *shelf[T]) map[int]int {
	count := map[int]int{}
	for n, x := range on.items {
		count[n] = x.count
	}
	return count
}

// wantShelves looks whether there is on the shelves what the histories have, and nothing else.
func wantShelves(t *testing.T, s *Store) {
	t.Helper()
	txs, orders := users(s, func(x state) pmap.Map { return x.txs }), users(s, func(x state) pmap.Map { return x.orders })
	if got := counts(s.txs); !maps.Equal(got, txs) {
		t.Fatalf("transactions: %v, want %v", got, txs)
	}
	if got := counts(s.orders); !maps.Equal(got, orders) {
		t.Fatalf("orders: %v, want %v", got, orders)
	}
}

// wantMoved looks whether a new arena has all that is held: else the old ones would stay for what lies there.
func wantMoved(t *testing.T, s *Store) {
	t.Helper()
	s.renew()
	cells := s.now.txs.Len() + s.now.orders.Len()
	for _, x := range s.kept {
		cells += x.txs.Len() + x.orders.Len()
	}
	for _, x := range s.orders.items {
		cells += x.thing.Len()
	}
	if s.cells.Len() != cells {
		t.Fatalf("a new arena has %d cells, want %d", s.cells.Len(), cells)
	}
	// Where a sequence lies is told by where another one like it comes to be.
	for _, x := range s.orders.items {
		if x.thing.Insert(0, 1); s.cells.Len() == cells {
			t.Fatalf("an order stays in an old arena")
		}
		s.cells.Cut(cells)
	}
}

func TestNothingStaysThatNoneHas(t *testing.T) {
	from := rand.New(rand.NewSource(153))
	for range 20 {
		s := New()
		for i := range 200 {
			switch from.Intn(6) {
			case 0:
				s.Keep()
			case 1:
				s.Drop(from.Intn(s.next + 1))
			case 2:
				s.Back(from.Intn(s.next + 1))
			default:
				d, _ := delta.Of(s.History(), sample.DrawEdit(s.History(), from.Intn))
				s.Do(d)
			}
			if i%50 == 0 {
				wantMoved(t, s)
			}
			wantShelves(t, s)
		}
		for n := range s.next {
			s.Drop(n)
		}
		d, _ := delta.Of(s.History(), api.History{})
		s.Do(d)
		wantShelves(t, s)
		if len(s.txs.items)+len(s.orders.items)+len(s.kept)+s.Held() != 0 {
			t.Fatalf("something is left")
		}
	}
}
