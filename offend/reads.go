package offend

import (
	"tenter/api"
	"tenter/history"
	"tenter/op"
)

// reads tells the reads of those keys that isOf holds of, in order: transactions of a right history stand by rising ids.
func reads(h api.History, phen int, isOf func(key int) bool) []api.Bad {
	if !history.Right(h) {
		return nil
	}
	var l []api.Bad
	wrote := writtenOf(h)
	for _, t := range h.Txs {
		for place, o := range t.Ops {
			v := op.Of(o)
			if t.Done && isOf(v.Key) && isOther(v, t.Id) && wrote.offends(v, phen) {
				l = append(l, api.Bad{Tx: t.Id, Place: place, Of: v})
			}
		}
	}
	return l
}

// isOther tells whether a version is of another transaction than that of an id. What is of no transaction is not: what was there at first, and what op.Of tells of a write.
func isOther(v api.Version, id int) bool { return v.Tx != 0 && v.Tx != id }

// written is who is Done, and, by id and key, how often who writes what.
type written struct {
	done   map[int]bool
	writes map[[2]int]int
}

func writtenOf(h api.History) written {
	wrote := written{done: map[int]bool{}, writes: map[[2]int]int{}}
	for _, t := range h.Txs {
		wrote.done[t.Id] = t.Done
		for _, o := range t.Ops {
			if !o.Read {
				wrote.writes[[2]int{t.Id, o.Key}]++
			}
		}
	}
	return wrote
}

// offends tells whether another transaction's version may not be read, by a phenomenon.
func (w written) offends(v api.Version, phen int) bool {
	switch phen {
	case api.G1a:
		return !w.done[v.Tx]
	case api.G1b:
		return v.Nth < w.writes[[2]int{v.Tx, v.Key}]
	default:
		return false
	}
}
