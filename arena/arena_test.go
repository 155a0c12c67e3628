package arena_test

import (
	"math"
	"math/rand"
	"slices"
	"testing"

	"tenter/api"
	"tenter/arena"
)

// rooms are small ones, and those at the end of what an arena may have.
func rooms() []int { return []int{0, 1, 2, 3, 10, 100, api.MaxCells - 1, api.MaxCells} }

// far are numbers that are of no cell, nor of none.
func far() []int {
	return []int{-1, -2, api.MaxCells + 1, math.MinInt32, math.MaxInt32, math.MinInt, math.MinInt + 1, math.MaxInt - 1, math.MaxInt}
}

// plain is a cell that points nowhere, unlike those of other numbers.
func plain(n int) api.Cell { return api.Cell{Key: n, Val: -n, Size: 2*n + 1, High: 7 - n} }

// filled makes an arena of a room, with so many plain cells.
func filled(t *testing.T, room, size int) *arena.Arena {
	t.Helper()
	a := arena.New(room)
	for n := range size {
		wantPut(t, a, plain(n), n+1)
	}
	return a
}

// wantPut puts a cell that there is room for.
func wantPut(t *testing.T, a *arena.Arena, c api.Cell, number int) {
	t.Helper()
	if got, why := a.Put(c); got != number || why != api.OK {
		t.Fatalf("Put(%+v): %d, %d; want %d", c, got, why, number)
	}
}

// wantRefused puts a cell that may not be put, and looks whether that changed the arena.
func wantRefused(t *testing.T, a *arena.Arena, c api.Cell, fault api.Errno) {
	t.Helper()
	size, room := a.Len(), a.Room()
	if got, why := a.Put(c); got != 0 || why != fault {
		t.Fatalf("Put(%+v) behind %d cells: %d, %d; want 0, %d", c, size, got, why, fault)
	}
	if a.Len() != size || a.Room() != room {
		t.Fatalf("behind a Put that was refused: Len %d, Room %d; want %d, %d", a.Len(), a.Room(), size, room)
	}
	if c, there := a.Get(size + 1); there || c != (api.Cell{}) {
		t.Fatalf("behind a Put that was refused there is a cell %d: %+v", size+1, c)
	}
}

// wantCells looks at an arena by all calls that tell of it.
func wantCells(t *testing.T, a *arena.Arena, room int, cells []api.Cell) {
	t.Helper()
	if a.Len() != len(cells) || a.Room() != room-len(cells) {
		t.Fatalf("Len %d, Room %d; want %d, %d", a.Len(), a.Room(), len(cells), room-len(cells))
	}
	for i, want := range cells {
		if c, there := a.Get(i + 1); !there || c != want {
			t.Fatalf("Get(%d): %+v, %v; want %+v", i+1, c, there, want)
		}
	}
	for _, i := range append(far(), 0, len(cells)+1, len(cells)+2) {
		if c, there := a.Get(i); there || c != (api.Cell{}) {
			t.Fatalf("Get(%d) of %d cells: %+v, %v", i, len(cells), c, there)
		}
	}
}

// 5.1

func TestNewHasTheRoomThatIsAskedFor(t *testing.T) {
	for _, room := range rooms() {
		wantCells(t, arena.New(room), room, nil)
	}
}

func TestNewBoundsTheRoom(t *testing.T) {
	want := map[int]int{
		-1: 0, -api.MaxCells: 0, math.MinInt32: 0, math.MinInt: 0,
		api.MaxCells + 1: api.MaxCells, 1 << 20: api.MaxCells, math.MaxInt32: api.MaxCells, math.MaxInt: api.MaxCells,
	}
	for room, most := range want {
		a := arena.New(room)
		if a == nil {
			t.Fatalf("New(%d) is nil", room)
		}
		wantCells(t, a, most, nil)
	}
}

func TestLenAndRoomAlongTheWay(t *testing.T) {
	a := arena.New(5)
	for n := range 5 {
		if a.Len() != n || a.Room() != 5-n {
			t.Fatalf("behind %d cells: Len %d, Room %d", n, a.Len(), a.Room())
		}
		wantPut(t, a, plain(n), n+1)
	}
	if a.Len() != 5 || a.Room() != 0 {
		t.Fatalf("full: Len %d, Room %d", a.Len(), a.Room())
	}
}

func TestEachArenaHasItsOwnCells(t *testing.T) {
	a, b := arena.New(9), arena.New(9)
	wantPut(t, a, plain(1), 1)
	wantPut(t, a, plain(2), 2)
	wantPut(t, b, plain(3), 1)
	wantCells(t, a, 9, []api.Cell{plain(1), plain(2)})
	wantCells(t, b, 9, []api.Cell{plain(3)})
}

// 5.2

func TestTheDocumentsArena(t *testing.T) {
	a := arena.New(1)
	wantRefused(t, a, api.Cell{Left: 1}, api.ErrRange)
	wantPut(t, a, api.Cell{}, 1)
	wantRefused(t, a, api.Cell{}, api.ErrFull)
}

func TestWhatIsPutIsTold(t *testing.T) {
	var cells []api.Cell
	a := arena.New(20)
	for _, c := range []api.Cell{
		{},
		{Left: 1},
		{Right: 2},
		{Left: 3, Right: 3},
		{Left: 1, Right: 4, Key: 5, Val: 6, Size: 7, High: 8},
		{Left: 5, Right: 1, Key: -5, Val: -6, Size: -7, High: -8},
		{Key: math.MaxInt, Val: math.MinInt, Size: math.MaxInt, High: math.MinInt},
		{Key: math.MinInt, Val: math.MaxInt, Size: math.MinInt, High: math.MaxInt},
		{},
	} {
		cells = append(cells, c)
		wantPut(t, a, c, len(cells))
		wantCells(t, a, 20, cells)
	}
}

func TestPutUpToTheRoom(t *testing.T) {
	for _, room := range rooms() {
		a := filled(t, room, room)
		wantRefused(t, a, plain(room), api.ErrFull)
		wantRefused(t, a, plain(room), api.ErrFull)
		for _, i := range []int{1, room/2 + 1, room} {
			if c, there := a.Get(i); room > 0 && (!there || c != plain(i-1)) {
				t.Fatalf("of room %d: Get(%d): %+v, %v", room, i, c, there)
			}
		}
	}
}

func TestPutOfACellThatIsNotRight(t *testing.T) {
	for _, size := range []int{0, 1, 2, 7} {
		a := filled(t, 8, size)
		for _, i := range append(far(), size+1, size+2, 8, 9, api.MaxCells) {
			if i <= size && i >= 0 {
				continue
			}
			wantRefused(t, a, api.Cell{Left: i}, api.ErrRange)
			wantRefused(t, a, api.Cell{Right: i}, api.ErrRange)
			wantRefused(t, a, api.Cell{Left: i, Right: i}, api.ErrRange)
			wantRefused(t, a, api.Cell{Left: size, Right: i}, api.ErrRange)
			wantRefused(t, a, api.Cell{Left: i, Right: size}, api.ErrRange)
		}
		for i := range size + 1 {
			wantPut(t, a, api.Cell{Left: i, Right: size - i}, size+1)
			a.Cut(size)
		}
	}
}

func TestACellThatIsNotRightIsToldAheadOfTheRoom(t *testing.T) {
	for _, size := range []int{0, 1, 5} {
		a := filled(t, size, size)
		wantRefused(t, a, api.Cell{Left: size + 1}, api.ErrRange)
		wantRefused(t, a, api.Cell{Right: -1}, api.ErrRange)
		wantRefused(t, a, api.Cell{Left: size, Right: size}, api.ErrFull)
	}
}

func TestCutLeavesTheFirstOnes(t *testing.T) {
	const room = 9
	all := []api.Cell{plain(0), plain(1), plain(2), plain(3), plain(4), plain(5)}
	for n := range len(all) + 1 {
		a := filled(t, room, len(all))
		if !a.Cut(n) {
			t.Fatalf("Cut(%d) of %d cells is false", n, len(all))
		}
		wantCells(t, a, room, all[:n])
		wantRefused(t, a, api.Cell{Left: n + 1}, api.ErrRange)
		wantPut(t, a, api.Cell{Left: n, Key: 77}, n+1)
		wantCells(t, a, room, append(slices.Clone(all[:n]), api.Cell{Left: n, Key: 77}))
	}
}

func TestCutOfWhatIsNotThere(t *testing.T) {
	for _, size := range []int{0, 1, 4} {
		a := filled(t, 6, size)
		var cells []api.Cell
		for n := range size {
			cells = append(cells, plain(n))
		}
		for _, n := range append(far(), size+1, size+2, 6, 7) {
			if a.Cut(n) {
				t.Fatalf("Cut(%d) of %d cells", n, size)
			}
			wantCells(t, a, 6, cells)
		}
	}
}

func TestACutMakesRoom(t *testing.T) {
	a := filled(t, 3, 3)
	wantRefused(t, a, plain(9), api.ErrFull)
	a.Cut(1)
	wantPut(t, a, plain(8), 2)
	wantPut(t, a, plain(9), 3)
	wantRefused(t, a, plain(7), api.ErrFull)
	wantCells(t, a, 3, []api.Cell{plain(0), plain(8), plain(9)})
}

// 5.3

func TestNilArena(t *testing.T) {
	var none *arena.Arena
	for _, a := range []*arena.Arena{none, arena.New(0), arena.New(-3)} {
		wantCells(t, a, 0, nil)
		wantRefused(t, a, api.Cell{}, api.ErrFull)
		wantRefused(t, a, plain(4), api.ErrFull)
		for _, i := range append(far(), 1, 2) {
			wantRefused(t, a, api.Cell{Left: i}, api.ErrRange)
			wantRefused(t, a, api.Cell{Right: i}, api.ErrRange)
			if a.Cut(i) {
				t.Errorf("Cut(%d)", i)
			}
		}
		if !a.Cut(0) {
			t.Errorf("Cut(0) is false")
		}
		wantCells(t, a, 0, nil)
	}
}

// 5.4

// wantBackward looks whether each cell points to earlier ones alone.
func wantBackward(t *testing.T, a *arena.Arena) {
	t.Helper()
	for i := 1; i <= a.Len(); i++ {
		c, _ := a.Get(i)
		if c.Left < 0 || c.Left >= i || c.Right < 0 || c.Right >= i {
			t.Fatalf("the cell %d points to %d and %d", i, c.Left, c.Right)
		}
	}
}

func TestCellsPointBackwardAndStay(t *testing.T) {
	for seed := range 40 {
		from := rand.New(rand.NewSource(int64(seed)))
		room := from.Intn(60)
		a := arena.New(room)
		var cells []api.Cell
		for range 400 {
			if from.Intn(6) == 0 {
				n := from.Intn(room+3) - 1
				cut := n >= 0 && n <= len(cells)
				if cut {
					cells = cells[:n]
				}
				if a.Cut(n) != cut {
					t.Fatalf("Cut(%d) is %v", n, !cut)
				}
			} else {
				cells = putAny(t, from, a, room, cells)
			}
			wantCells(t, a, room, cells)
			wantBackward(t, a)
		}
	}
}

// putAny puts a cell that may point anywhere, and tells what cells there should be behind that.
func putAny(t *testing.T, from *rand.Rand, a *arena.Arena, room int, cells []api.Cell) []api.Cell {
	t.Helper()
	end := func() int { return from.Intn(len(cells)+3) - 1 }
	c := api.Cell{Left: end(), Right: end(), Key: from.Int(), Val: from.Int(), Size: from.Int(), High: from.Int()}
	switch {
	case c.Left < 0 || c.Left > len(cells) || c.Right < 0 || c.Right > len(cells):
		wantRefused(t, a, c, api.ErrRange)
		return cells
	case len(cells) == room:
		wantRefused(t, a, c, api.ErrFull)
		return cells
	}
	wantPut(t, a, c, len(cells)+1)
	return append(slices.Clone(cells), c)
}

func TestWhatWasPutDoesNotChangeWithItsCopy(t *testing.T) {
	a := arena.New(2)
	c := plain(1)
	wantPut(t, a, c, 1)
	c.Key, c.Left = 99, 1
	got, _ := a.Get(1)
	got.Val, got.Right = 98, 1
	wantCells(t, a, 2, []api.Cell{plain(1)})
}
