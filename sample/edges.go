package sample

import (
	"cmp"
	"math"
	"slices"
	"strconv"
	"strings"

	"tenter/api"
)

// Edges reads walks with ; between: 1 ww5 2 rw4 1; -7 x5 3. An x is of kind 0.
func Edges(text string) []api.Edge {
	var l []api.Edge
	for part := range strings.SplitSeq(text, ";") {
		words := strings.Fields(part)
		for at := 0; at+2 < len(words); at += 2 {
			kind, key := kindOf(words[at+1])
			l = append(l, api.Edge{From: whole(words[at]), To: whole(words[at+2]), Kind: kind, Key: whole(key)})
		}
	}
	return l
}

// kindOf tells the kind of an edge's word, and what is behind it.
func kindOf(word string) (kind int, rest string) {
	for i, name := range []string{"x", "ww", "wr", "rw"} {
		if rest, is := strings.CutPrefix(word, name); is {
			return i, rest
		}
	}
	panic("no sample: " + word)
}

func whole(text string) int {
	n, err := strconv.Atoi(text)
	if err != nil {
		panic("no sample: " + text)
	}
	return n
}

// CompareEdges puts edges in order.
func CompareEdges(a, b api.Edge) int {
	return cmp.Or(cmp.Compare(a.From, b.From), cmp.Compare(a.Kind, b.Kind), cmp.Compare(a.Key, b.Key), cmp.Compare(a.To, b.To))
}

// DrawEdge draws an edge of some ids, kinds and keys.
func DrawEdge(draw func(n int) int, ids, kinds, keys []int) api.Edge {
	one := func(l []int) int { return l[draw(len(l))] }
	return api.Edge{From: one(ids), To: one(ids), Kind: one(kinds), Key: one(keys)}
}

// DrawEdges draws edges between some ids; now and then their kinds and keys are odd, too.
func DrawEdges(draw func(n int) int, ids []int, count int) []api.Edge {
	kinds, keys := []int{1, 2, 3}, []int{1, 2}
	if draw(4) == 0 {
		kinds, keys = append(OddNumbers(), 1, 2, 3, 1, 2, 3, 1, 2, 3), OddNumbers()
	}
	var l []api.Edge
	for range count {
		l = append(l, DrawEdge(draw, ids, kinds, keys))
	}
	return l
}

// Ring tells edges of some ids, each to the next one, the last one to the first one; the keys are the numbers of the places.
func Ring(ids []int, kind int) []api.Edge {
	var l []api.Edge
	for i, id := range ids {
		l = append(l, api.Edge{From: id, To: ids[(i+1)%len(ids)], Kind: kind, Key: i})
	}
	return l
}

// Ahead has, of each id, to which ids one or more edges lead from it, one behind the other.
func Ahead(l []api.Edge) map[int]map[int]bool {
	next := map[int][]int{}
	for _, e := range l {
		next[e.From] = append(next[e.From], e.To)
	}
	all := map[int]map[int]bool{}
	for id := range next {
		met := map[int]bool{}
		for todo := slices.Clone(next[id]); len(todo) > 0; {
			to := todo[len(todo)-1]
			todo = todo[:len(todo)-1]
			if !met[to] {
				met[to] = true
				todo = append(todo, next[to]...)
			}
		}
		all[id] = met
	}
	return all
}

// OddNumbers are no ids, keys or kinds; some would be, if they were cut, or a bit were shifted by them.
func OddNumbers() []int {
	return []int{math.MinInt, -1 << 32, -1048576, -61, -1, 0, 4, 63, 64, 65, 66, 1048576, 1<<32 + 1, 1<<62 + 2, math.MaxInt}
}
