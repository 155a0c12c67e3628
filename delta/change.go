package delta

import "maps"

// change is what a delta has of transactions, or of orders, by ids: as they were, and as they are.
type change[T any] struct{ was, now map[int]T }

func changeOf[T any](k kind[T], was, now []T) change[T] {
	return change[T]{was: found(k, was), now: found(k, now)}
}

// has tells whether an id stands in it.
func (c change[T]) has(id int) bool {
	_, was := c.was[id]
	_, is := c.now[id]
	return was || is
}

// fit tells whether e finds what d makes, of each id that stands in both.
func fit[T any](k kind[T], d, e change[T]) bool {
	for _, l := range []map[int]T{e.was, e.now} {
		for id := range l {
			if d.has(id) && !alike(k, d.now, e.was, id) {
				return false
			}
		}
	}
	return true
}

// joined tells what d, and e behind it, make at once, if they fit.
func joined[T any](d, e change[T]) change[T] {
	all := change[T]{was: maps.Clone(d.was), now: maps.Clone(e.now)}
	for id, x := range e.was {
		if !d.has(id) {
			all.was[id] = x
		}
	}
	for id, x := range d.now {
		if !e.has(id) {
			all.now[id] = x
		}
	}
	return all
}

// parted tells copies of all that was, and of all that is, by rising ids, but for what stayed the same.
func parted[T any](k kind[T], c change[T]) (was, now []T) {
	stayed := func(id int, x T) bool { return alike(k, c.was, c.now, id) }
	onlyWas, onlyNow := maps.Clone(c.was), maps.Clone(c.now)
	maps.DeleteFunc(onlyWas, stayed)
	maps.DeleteFunc(onlyNow, stayed)
	return listed(k, onlyWas), listed(k, onlyNow)
}
