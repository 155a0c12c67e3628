package dsg

import (
	"tenter/api"
	"tenter/history"
)

// counts is how often there is a reason for each edge.
type counts map[api.Edge]int

// count gathers the edges of those keys that counts holds of.
func count(h api.History, isOf func(key int) bool) counts {
	all := counts{}
	if !history.Right(h) {
		return all
	}
	last, next := lastOf(h, isOf), nextOf(h, isOf)
	for at, id := range next {
		if from := at[0]; from != 0 {
			all[api.Edge{From: from, To: id, Kind: api.WW, Key: at[1]}]++
		}
	}
	for _, t := range h.Txs {
		for _, o := range t.Ops {
			if t.Done && o.Read && o.Tx != t.Id && isOf(o.Key) && last[[2]int{o.Tx, o.Key}] == o.Nth {
				all.read(t.Id, o, next)
			}
		}
	}
	return all
}

// read adds what comes of a read of another one's installed version, or of what was there at first.
func (c counts) read(id int, o api.Op, next map[[2]int]int) {
	if o.Tx != 0 {
		c[api.Edge{From: o.Tx, To: id, Kind: api.WR, Key: o.Key}]++
	}
	if to, is := next[[2]int{o.Tx, o.Key}]; is && to != id {
		c[api.Edge{From: id, To: to, Kind: api.RW, Key: o.Key}]++
	}
}

// lastOf tells, by id and key, the number of the version that is installed. What was there at first, of the id 0, has the number 0, as what is no entry; who is not Done has no entry, and no version of the number 0.
func lastOf(h api.History, isOf func(key int) bool) map[[2]int]int {
	last := map[[2]int]int{}
	for _, t := range h.Txs {
		for _, o := range t.Ops {
			if t.Done && !o.Read && isOf(o.Key) {
				last[[2]int{t.Id, o.Key}]++
			}
		}
	}
	return last
}

// nextOf tells, by id and key, who has the next version behind the one that is installed, or behind what was there at first, of the id 0.
func nextOf(h api.History, isOf func(key int) bool) map[[2]int]int {
	next := map[[2]int]int{}
	for _, o := range h.Orders {
		if !isOf(o.Key) {
			continue
		}
		ahead := 0
		for _, id := range o.Txs {
			next[[2]int{ahead, o.Key}] = id
			ahead = id
		}
	}
	return next
}
