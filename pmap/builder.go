package pmap

import "tenter/api"

// builder puts cells for a map that comes out of the one that it has embedded.
type builder struct {
	Map
	had int
	why api.Errno
}

// build begins a map that comes out of m.
func (m Map) build() *builder { return &builder{Map: m, had: m.cells.Len()} }

// done tells the map of a tree, or takes back all cells if one of them found no room.
func (b *builder) done(root int) (Map, api.Errno) {
	if b.why != api.OK {
		b.cells.Cut(b.had)
		return New(b.cells), b.why
	}
	return Map{cells: b.cells, root: root}, api.OK
}

// put puts the cell of c's pair, between the trees that c points to.
func (b *builder) put(c api.Cell) int {
	left, right := b.cell(c.Left), b.cell(c.Right)
	c.Size = left.Size + 1 + right.Size
	c.High = 1 + max(left.High, right.High)
	at, why := b.cells.Put(c)
	if why != api.OK {
		b.why = why
	}
	return at
}

// all tells a tree of pairs that rise, with a cell for each.
func (b *builder) all(l []api.Pair) int {
	if len(l) == 0 {
		return 0
	}
	mid := len(l) / 2
	left, right := b.all(l[:mid]), b.all(l[mid+1:])
	return b.put(api.Cell{Left: left, Right: right, Key: l[mid].Key, Val: l[mid].Val})
}

// with tells a tree like the one at a cell, with a pair.
func (b *builder) with(at int, p api.Pair) int {
	if at == 0 {
		return b.put(api.Cell{Key: p.Key, Val: p.Val})
	}
	c := b.cell(at)
	switch {
	case p.Key < c.Key:
		c.Left = b.with(c.Left, p)
	case p.Key > c.Key:
		c.Right = b.with(c.Right, p)
	default:
		c.Val = p.Val
	}
	return b.level(c)
}

// without tells a tree like the one at a cell, without a key that it has.
func (b *builder) without(at, key int) int {
	c := b.cell(at)
	switch {
	case key < c.Key:
		c.Left = b.without(c.Left, key)
	case key > c.Key:
		c.Right = b.without(c.Right, key)
	case c.Left == 0:
		return c.Right
	case c.Right == 0:
		return c.Left
	default:
		next, rest := b.first(c.Right)
		c.Key, c.Val, c.Right = next.Key, next.Val, rest
	}
	return b.level(c)
}

// first tells the least pair of a tree, and a tree of the others.
func (b *builder) first(at int) (api.Pair, int) {
	c := b.cell(at)
	if c.Left == 0 {
		return pairOf(c), c.Right
	}
	p, rest := b.first(c.Left)
	c.Left = rest
	return p, b.level(c)
}

// level puts c; where the trees below differ by two in height, it turns them first, so that one cell more, or two, are all that this takes.
func (b *builder) level(c api.Cell) int {
	lean := b.cell(c.Left).High - b.cell(c.Right).High
	switch {
	case lean > 1:
		return b.turnRight(c)
	case lean < -1:
		return b.turnLeft(c)
	}
	return b.put(c)
}

// turnRight puts c below its left one, or below the right one of that if that is the higher.
func (b *builder) turnRight(c api.Cell) int {
	left := b.cell(c.Left)
	mid := b.cell(left.Right)
	if b.cell(left.Left).High >= mid.High {
		c.Left = left.Right
		left.Right = b.put(c)
		return b.put(left)
	}
	left.Right, c.Left = mid.Left, mid.Right
	mid.Left, mid.Right = b.put(left), b.put(c)
	return b.put(mid)
}

// turnLeft is turnRight, seen in a mirror.
func (b *builder) turnLeft(c api.Cell) int {
	right := b.cell(c.Right)
	mid := b.cell(right.Left)
	if b.cell(right.Right).High >= mid.High {
		c.Right = right.Left
		right.Left = b.put(c)
		return b.put(right)
	}
	right.Left, c.Right = mid.Right, mid.Left
	mid.Right, mid.Left = b.put(right), b.put(c)
	return b.put(mid)
}
