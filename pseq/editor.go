package pseq

import "tenter/api"

// editor puts cells for a sequence that comes out of the one that it has embedded.
type editor struct {
	Seq
	had int
	why api.Errno
}

// edit begins a sequence that comes out of s.
func (s Seq) edit() *editor { return &editor{Seq: s, had: s.cells.Len()} }

// done tells the sequence of a tree, or takes back all cells if one of them found no room.
func (e *editor) done(root int) (Seq, api.Errno) {
	if e.why != api.OK {
		e.cells.Cut(e.had)
		return New(e.cells), e.why
	}
	return Seq{cells: e.cells, root: root}, api.OK
}

// put puts a cell with val between two trees.
func (e *editor) put(left, val, right int) int {
	l, r := e.cell(left), e.cell(right)
	at, why := e.cells.Put(api.Cell{Left: left, Right: right, Val: val, Size: l.Size + 1 + r.Size, High: 1 + max(l.High, r.High)})
	if why != api.OK {
		e.why = why
	}
	return at
}

// all tells a tree of some numbers, with a cell for each.
func (e *editor) all(l []int) int {
	if len(l) == 0 {
		return 0
	}
	mid := len(l) / 2
	left, right := e.all(l[:mid]), e.all(l[mid+1:])
	return e.put(left, l[mid], right)
}

// A spot is a place, or a gap ahead of a place or behind the last one: gap, place, gap, place, .., gap are 0, 1, 2, 3, .. So one number tells where an edit goes: to a cell, or to where none is.
func gap(i int) int { return 2 * i }

func place(i int) int { return 2*i + 1 }

// change tells a tree like the one at a cell, but with what do makes of the cell at a spot (of none, at a gap) and the trees below that.
func (e *editor) change(at, spot int, do func(c api.Cell) int) int {
	if at == 0 {
		return do(api.Cell{})
	}
	c := e.cell(at)
	own := place(e.cell(c.Left).Size)
	switch {
	case spot < own:
		return e.level(e.change(c.Left, spot, do), c.Val, c.Right)
	case spot > own:
		return e.level(c.Left, c.Val, e.change(c.Right, spot-own-1, do))
	}
	return do(c)
}

// join tells a tree of all that stands in two trees below one cell.
func (e *editor) join(left, right int) int {
	switch {
	case left == 0:
		return right
	case right == 0:
		return left
	}
	first := 0
	rest := e.change(right, place(0), func(c api.Cell) int {
		first = c.Val
		return c.Right
	})
	return e.level(left, first, rest)
}

// level is put for trees that differ by two in height at most: it turns the higher one, so that one cell more, or two, are all that this takes.
func (e *editor) level(left, val, right int) int {
	l, r := e.cell(left), e.cell(right)
	switch {
	case l.High > r.High+1:
		return e.turnRight(l, val, right)
	case r.High > l.High+1:
		return e.turnLeft(left, val, r)
	}
	return e.put(left, val, right)
}

// turnRight puts the top of the higher tree, l, above val, or that of the tree in between if this is why l is high.
func (e *editor) turnRight(l api.Cell, val, right int) int {
	mid := e.cell(l.Right)
	if e.cell(l.Left).High >= mid.High {
		return e.put(l.Left, l.Val, e.put(l.Right, val, right))
	}
	return e.put(e.put(l.Left, l.Val, mid.Left), mid.Val, e.put(mid.Right, val, right))
}

// turnLeft is turnRight, seen in a mirror.
func (e *editor) turnLeft(left, val int, r api.Cell) int {
	mid := e.cell(r.Left)
	if e.cell(r.Right).High >= mid.High {
		return e.put(e.put(left, val, r.Left), r.Val, r.Right)
	}
	return e.put(e.put(left, val, mid.Left), mid.Val, e.put(mid.Right, r.Val, r.Right))
}
