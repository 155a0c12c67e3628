package closure

// counts tells how often arcs are there, by their two nodes, of which none is above MaxNodes, and no count above MaxNum. What is not there has no entry.
type counts map[[2]int32]int32

// of tells the count of an arc between nodes that there are: cut to 32 bits, other numbers might be some of them.
func (c counts) of(u, v int) int { return int(c[[2]int32{int32(u), int32(v)}]) }

func (c counts) set(u, v, count int) {
	if count == 0 {
		delete(c, [2]int32{int32(u), int32(v)})
		return
	}
	c[[2]int32{int32(u), int32(v)}] = int32(count)
}
