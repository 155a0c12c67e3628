package store

// shelf has things by numbers, each as long as one history or more have it: so nothing stays that none has.
type shelf[T any] struct {
	items map[int]item[T]
	last  int
}

// item is a thing, and how many histories have it.
type item[T any] struct {
	thing T
	count int
}

func newShelf[T any]() *shelf[T] { return &shelf[T]{items: map[int]item[T]{}} }

// put tells the number of a new thing, which one history has.
func (s *shelf[T]) put(thing T) int {
	s.last++
	s.items[s.last] = item[T]{thing: thing, count: 1}
	return s.last
}

func (s *shelf[T]) get(n int) T { return s.items[n].thing }

// set puts another thing in the place of one that is there.
func (s *shelf[T]) set(n int, thing T) {
	s.items[n] = item[T]{thing: thing, count: s.items[n].count}
}

// share tells that one history more has a thing.
func (s *shelf[T]) share(n int) {
	x := s.items[n]
	x.count++
	s.items[n] = x
}

// leave tells that one history less has a thing.
func (s *shelf[T]) leave(n int) {
	x := s.items[n]
	x.count--
	if x.count == 0 {
		delete(s.items, n)
		return
	}
	s.items[n] = x
}
