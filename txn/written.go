package txn

// write is a transaction's write number nth of a key.
type write struct{ key, nth int }

// written is what a transaction wrote so far: its writes, and how many of a key.
type written struct {
	writes map[write]bool
	count  map[int]int
}

func newWritten() written {
	return written{writes: map[write]bool{}, count: map[int]int{}}
}

// add takes the next write of a key in.
func (w written) add(key int) {
	w.count[key]++
	w.writes[write{key, w.count[key]}] = true
}

func (w written) has(key, nth int) bool { return w.writes[write{key, nth}] }
