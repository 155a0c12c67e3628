package phen

import (
	"tenter/api"
	"tenter/parts"
)

// labels tells, by id, which component of the edges it is of. There may be more ids than a digraph has nodes.
func labels(l []api.Edge) map[int]int {
	numbers := numbersOf(l)
	next := make([][]int, len(numbers))
	for _, e := range l {
		from := numbers[e.From]
		next[from] = append(next[from], numbers[e.To])
	}
	all := parts.Labels(len(next), func(node int) []int { return next[node] })
	label := make(map[int]int, len(numbers))
	for id, number := range numbers {
		label[id] = all[number]
	}
	return label
}

// numbersOf has, by id, how many others were met ahead of it.
func numbersOf(l []api.Edge) map[int]int {
	numbers := map[int]int{}
	meet := func(id int) {
		if _, is := numbers[id]; !is {
			numbers[id] = len(numbers)
		}
	}
	for _, e := range l {
		meet(e.From)
		meet(e.To)
	}
	return numbers
}
