package topo

import (
	"container/heap"
	"iter"
)

// sorter puts numbers, from 0 on, into an order: each comes as soon as those ahead of it have come; of several that may come the least one does.
type sorter struct {
	next  [][]int // of each number, where the edges from it go
	waits []int   // of each number, how many edges come to it from those that have not come yet
	ready least   // those that may come
}

func newSorter(n int, edges iter.Seq2[int, int]) *sorter {
	s := &sorter{next: make([][]int, n), waits: make([]int, n)}
	for from, to := range edges {
		s.next[from] = append(s.next[from], to)
		s.waits[to]++
	}
	for number, waits := range s.waits {
		if waits == 0 {
			heap.Push(&s.ready, number)
		}
	}
	return s
}

// order tells all numbers that come at some time.
func (s *sorter) order() []int {
	var l []int
	for s.ready.Len() > 0 {
		number := s.ready.first()
		l = append(l, number)
		for _, to := range s.next[number] {
			s.waits[to]--
			if s.waits[to] == 0 {
				heap.Push(&s.ready, to)
			}
		}
	}
	return l
}
