package digraph

import (
	"iter"
	"slices"
	"sort"
)

// blockFull is how many numbers make two blocks of one.
const blockFull = 512

// list is numbers, each once, rising. They stand in blocks, none of which is empty, or full: so that few are moved, however many there are, when one comes in between, or goes.
type list struct {
	blocks [][]uint64
	size   int
}

// seek tells in which block, and where in it, the least number from x on stands, and whether it is x; the block behind the last one, if there is none.
func (l *list) seek(x uint64) (block, at int, is bool) {
	block = sort.Search(len(l.blocks), func(i int) bool { return last(l.blocks[i]) >= x })
	if block < len(l.blocks) {
		at, is = slices.BinarySearch(l.blocks[block], x)
	}
	return block, at, is
}

// last tells the greatest number of a block.
func last(block []uint64) uint64 { return block[len(block)-1] }

// has tells whether x is there.
func (l *list) has(x uint64) bool {
	_, _, is := l.seek(x)
	return is
}

// put lets x be there, and tells whether it was not.
func (l *list) put(x uint64) bool {
	block, at, is := l.seek(x)
	if is {
		return false
	}
	switch {
	case len(l.blocks) == 0:
		l.blocks = [][]uint64{{}}
	case block == len(l.blocks):
		block--
		at = len(l.blocks[block])
	}
	l.blocks[block] = slices.Insert(l.blocks[block], at, x)
	l.size++
	l.split(block)
	return true
}

// split makes two blocks of one that is full.
func (l *list) split(block int) {
	b := l.blocks[block]
	if len(b) < blockFull {
		return
	}
	// Where numbers come in order, a lower half never grows again: so neither keeps the memory of both.
	half := len(b) / 2
	l.blocks[block] = slices.Clone(b[:half])
	l.blocks = slices.Insert(l.blocks, block+1, slices.Clone(b[half:]))
}

// drop takes x away, and tells whether it was there.
func (l *list) drop(x uint64) bool {
	block, at, is := l.seek(x)
	if !is {
		return false
	}
	l.blocks[block] = slices.Delete(l.blocks[block], at, at+1)
	if len(l.blocks[block]) == 0 {
		l.blocks = slices.Delete(l.blocks, block, block+1)
	}
	l.size--
	return true
}

// between goes through the numbers from the one on, up to the other, which is not told any more.
func (l *list) between(from, to uint64) iter.Seq[uint64] {
	return func(yield func(x uint64) bool) {
		block, at, _ := l.seek(from)
		for ; block < len(l.blocks); block++ {
			for _, x := range l.blocks[block][at:] {
				if x >= to || !yield(x) {
					return
				}
			}
			at = 0
		}
	}
}
