package fifo

import "slices"

// pile has things, one upon the other, most of them at most.
type pile[T any] struct {
	things []T
	most   int
}

func (p *pile[T]) size() int { return len(p.things) }

func (p *pile[T]) room() int { return p.most - len(p.things) }

// put is for a pile that has room.
func (p *pile[T]) put(x T) { p.things = append(p.things, x) }

// top is for a pile that has things.
func (p *pile[T]) top() T { return p.things[len(p.things)-1] }

// drop takes the top away; it is for a pile that has things.
func (p *pile[T]) drop() { p.things = p.things[:len(p.things)-1] }

// downward tells all things, from the top on.
func (p *pile[T]) downward() []T {
	l := slices.Clone(p.things)
	slices.Reverse(l)
	return l
}
