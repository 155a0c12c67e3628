package topo

import (
	"iter"

	"tenter/api"
)

// numbers has, by id, how many other ids stand ahead of it.
type numbers map[int]int

func numbersOf(ids []int) numbers {
	n := numbers{}
	for _, id := range ids {
		if _, is := n[id]; !is {
			n[id] = len(n)
		}
	}
	return n
}

// ids tells those of some numbers.
func (n numbers) ids(l []int) []int {
	by := make([]int, len(n))
	for id, number := range n {
		by[number] = id
	}
	var ids []int
	for _, number := range l {
		ids = append(ids, by[number])
	}
	return ids
}

// between tells the edges that stand between two of the ids, by their numbers.
func (n numbers) between(l []api.Edge) iter.Seq2[int, int] {
	return func(look func(from, to int) bool) {
		for _, e := range l {
			from, isFrom := n[e.From]
			to, isTo := n[e.To]
			if isFrom && isTo && !look(from, to) {
				return
			}
		}
	}
}
