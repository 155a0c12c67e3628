package index

import "slices"

// Lists of ids are kept rising: so they are told as they stand, however they came.

// enter puts an id into the list of k, if it isn't in it.
func enter[K comparable](lists map[K][]int, k K, id int) {
	at, is := slices.BinarySearch(lists[k], id)
	if !is {
		lists[k] = slices.Insert(lists[k], at, id)
	}
}

// leave takes an id out of the list of k, and the list with it, if no other one is in it.
func leave[K comparable](lists map[K][]int, k K, id int) {
	at, is := slices.BinarySearch(lists[k], id)
	if !is {
		return
	}
	lists[k] = slices.Delete(lists[k], at, at+1)
	if len(lists[k]) == 0 {
		delete(lists, k)
	}
}
