package fifo

import "tenter/api"

// Stack is what chapter 8 calls so.
type Stack struct{ pile pile[int] }

// NewStack makes an empty stack.
func NewStack(room int) *Stack { return &Stack{pile[int]{most: bounded(room)}} }

// Push puts x ahead of all others.
func (s *Stack) Push(x int) api.Errno {
	if s.Room() == 0 {
		return api.ErrFull
	}
	s.pile.put(x)
	return api.OK
}

// Pop takes the first one.
func (s *Stack) Pop() (int, bool) {
	x, there := s.First()
	if there {
		s.pile.drop()
	}
	return x, there
}

// First tells the first one.
func (s *Stack) First() (int, bool) {
	if s.Len() == 0 {
		return 0, false
	}
	return s.pile.top(), true
}

// Len tells how many there are.
func (s *Stack) Len() int {
	if s == nil {
		return 0
	}
	return s.pile.size()
}

// Room tells how many more there is room for.
func (s *Stack) Room() int {
	if s == nil {
		return 0
	}
	return s.pile.room()
}

// List tells all, the first one first.
func (s *Stack) List() []int {
	if s == nil {
		return nil
	}
	return s.pile.downward()
}
