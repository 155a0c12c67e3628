package multi

// ends has the numbers of edges by the ids that they are from, or to.
type ends map[int]map[uint64]bool

// enter puts an edge's number to an id.
func (s ends) enter(id int, x uint64) {
	if s[id] == nil {
		s[id] = map[uint64]bool{}
	}
	s[id][x] = true
}

// leave takes an edge's number from an id, and the id with the last one.
func (s ends) leave(id int, x uint64) {
	delete(s[id], x)
	if len(s[id]) == 0 {
		delete(s, id)
	}
}
