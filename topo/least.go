package topo

import "container/heap"

// least has numbers, of which the least one comes out first, as container/heap asks for it.
type least []int

func (l least) Len() int           { return len(l) }
func (l least) Less(i, j int) bool { return l[i] < l[j] }
func (l least) Swap(i, j int)      { l[i], l[j] = l[j], l[i] }

// Push puts a number behind all.
func (l *least) Push(x any) {
	if number, is := x.(int); is {
		*l = append(*l, number)
	}
}

// Pop takes the last one out.
func (l *least) Pop() any {
	end := len(*l) - 1
	number := (*l)[end]
	*l = (*l)[:end]
	return number
}

// first takes the least one out.
func (l *least) first() int {
	number := (*l)[0]
	heap.Pop(l)
	return number
}
