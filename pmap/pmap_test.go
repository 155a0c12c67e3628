package pmap_test

import (
	"math"
	"math/bits"
	"math/rand"
	"slices"
	"testing"

	"tenter/api"
	"tenter/arena"
	"tenter/pmap"
)

// far are numbers that are the place of no pair; as keys they are like any other ones.
func far() []int {
	return []int{-1, -2, api.MaxCells, api.MaxCells + 1, math.MinInt32, math.MaxInt32, math.MinInt, math.MinInt + 1, math.MaxInt - 1, math.MaxInt}
}

// valueOf tells a value for a key, unlike the key and unlike those of the next ones.
func valueOf(key int) int { return key*3 ^ 0x5555 }

// pairsOf tells what a map of some keys should list.
func pairsOf(keys ...int) []api.Pair {
	keys = slices.Clone(keys)
	slices.Sort(keys)
	var l []api.Pair
	for _, key := range slices.Compact(keys) {
		l = append(l, api.Pair{Key: key, Val: valueOf(key)})
	}
	return l
}

// mapOf puts keys into a map, in the order in which they come.
func mapOf(t *testing.T, a *arena.Arena, keys ...int) pmap.Map {
	t.Helper()
	m := pmap.New(a)
	for _, key := range keys {
		m = wantPut(t, a, m, key, valueOf(key))
	}
	return m
}

// upTo tells the numbers below n, rising.
func upTo(n int) []int {
	var l []int
	for i := range n {
		l = append(l, i)
	}
	return l
}

// mostCells tells how many cells an edit of a map may need.
func mostCells(m pmap.Map) int { return 3*m.High() + 3 }

// wantPut puts into a map where there is room enough, and looks how many cells that took.
func wantPut(t *testing.T, a *arena.Arena, m pmap.Map, key, val int) pmap.Map {
	t.Helper()
	size := a.Len()
	next, why := m.Put(key, val)
	if took := a.Len() - size; why != api.OK || took < 0 || took > mostCells(m) {
		t.Fatalf("Put(%d, %d) of %d keys: error %d, %d cells taken", key, val, m.Len(), why, took)
	}
	return next
}

// wantDel takes a key out that is there, where there is room enough, and looks how many cells that took.
func wantDel(t *testing.T, a *arena.Arena, m pmap.Map, key int) pmap.Map {
	t.Helper()
	size := a.Len()
	next, why := m.Del(key)
	if took := a.Len() - size; why != api.OK || took < 0 || took > mostCells(m) {
		t.Fatalf("Del(%d) of %d keys: error %d, %d cells taken", key, m.Len(), why, took)
	}
	return next
}

// wantHigh looks whether the height lies between what so many keys need and what they may have.
func wantHigh(t *testing.T, what string, m pmap.Map) {
	t.Helper()
	size, high := m.Len(), m.High()
	if least := bits.Len(uint(size)); high < least || high > size {
		t.Fatalf("%s: High %d of %d keys", what, high, size)
	}
	if high > 40 || 1<<high > (size+1)*(size+1) {
		t.Fatalf("%s: High %d of %d keys: too much", what, high, size)
	}
}

// wantMap looks at a map by all calls that tell of it.
func wantMap(t *testing.T, what string, m pmap.Map, pairs []api.Pair) {
	t.Helper()
	if m.Len() != len(pairs) {
		t.Fatalf("%s: Len %d, want %d", what, m.Len(), len(pairs))
	}
	if l := m.List(); !slices.Equal(l, pairs) {
		t.Fatalf("%s: List %v, want %v", what, l, pairs)
	}
	wantHigh(t, what, m)
	for i, p := range pairs {
		wantThere(t, what, m, i, p)
	}
	for _, key := range keysAround(pairs) {
		wantKey(t, what, m, pairs, key)
	}
	for _, i := range append(far(), len(pairs), len(pairs)+1) {
		if p, there := m.At(i); there || p != (api.Pair{}) {
			t.Fatalf("%s: At(%d) of %d keys: %v, %v", what, i, len(pairs), p, there)
		}
	}
}

// wantThere looks at the pair number i.
func wantThere(t *testing.T, what string, m pmap.Map, i int, p api.Pair) {
	t.Helper()
	if got, there := m.At(i); !there || got != p {
		t.Fatalf("%s: At(%d): %v, %v; want %v", what, i, got, there, p)
	}
	if val, there := m.Get(p.Key); !there || val != p.Val {
		t.Fatalf("%s: Get(%d): %d, %v; want %d", what, p.Key, val, there, p.Val)
	}
	if rank := m.Rank(p.Key); rank != i {
		t.Fatalf("%s: Rank(%d) is %d, want %d", what, p.Key, rank, i)
	}
}

// keysAround tells keys that are next to those of a map, and far ones.
func keysAround(pairs []api.Pair) []int {
	l := append(far(), 0, 1)
	for _, p := range pairs {
		l = append(l, p.Key-1, p.Key+1)
	}
	return l
}

// wantKey looks for a key that may be there, or not.
func wantKey(t *testing.T, what string, m pmap.Map, pairs []api.Pair, key int) {
	t.Helper()
	i, has := slices.BinarySearchFunc(pairs, key, func(p api.Pair, key int) int {
		switch {
		case p.Key < key:
			return -1
		case p.Key > key:
			return 1
		}
		return 0
	})
	if rank := m.Rank(key); rank != i {
		t.Fatalf("%s: Rank(%d) is %d, want %d", what, key, rank, i)
	}
	want := 0
	if has {
		want = pairs[i].Val
	}
	if val, there := m.Get(key); there != has || val != want {
		t.Fatalf("%s: Get(%d): %d, %v; want %d, %v", what, key, val, there, want, has)
	}
}

// wantNothing looks at a map that is told beside an error: it has no keys, and lies in an arena, of which it takes a cell if there is one.
func wantNothing(t *testing.T, what string, m pmap.Map, a *arena.Arena) {
	t.Helper()
	wantMap(t, what, m, nil)
	size, room := a.Len(), a.Room()
	next, why := m.Put(5, 6)
	if room == 0 {
		if why != api.ErrFull {
			t.Fatalf("%s: Put where there is no room: error %d", what, why)
		}
		return
	}
	if why != api.OK || a.Len() != size+1 {
		t.Fatalf("%s: Put where there is room: error %d, %d cells taken", what, why, a.Len()-size)
	}
	wantMap(t, what, next, []api.Pair{{Key: 5, Val: 6}})
}

// 6.1

func TestNewHasNoKeys(t *testing.T) {
	for _, room := range []int{0, 1, 9, api.MaxCells} {
		a := arena.New(room)
		wantMap(t, "New", pmap.New(a), nil)
		if a.Len() != 0 {
			t.Fatalf("New took %d cells", a.Len())
		}
	}
}

func TestAMapTellsItsPairs(t *testing.T) {
	for _, keys := range [][]int{
		{7}, {0}, {1, 2}, {2, 1}, {1, 2, 3}, {3, 2, 1}, {2, 1, 3}, {1, 3, 2}, {3, 1, 2}, {-5, 5, 0, -6, 6},
		{math.MaxInt, math.MinInt, 0, -1, 1, math.MinInt + 1, math.MaxInt - 1},
		{math.MinInt}, {math.MaxInt}, {10, 20, 30, 40, 50, 25, 35, 5, 15, 45},
	} {
		a := arena.New(1000)
		wantMap(t, "of some keys", mapOf(t, a, keys...), pairsOf(keys...))
	}
}

func TestKeysFarApartDoNotGoRound(t *testing.T) {
	a := arena.New(100)
	m := mapOf(t, a, 2, math.MinInt, math.MaxInt, -2)
	wantMap(t, "far apart", m, []api.Pair{
		{Key: math.MinInt, Val: valueOf(math.MinInt)}, {Key: -2, Val: valueOf(-2)}, {Key: 2, Val: valueOf(2)}, {Key: math.MaxInt, Val: valueOf(math.MaxInt)},
	})
}

func TestAListIsNewMemory(t *testing.T) {
	a := arena.New(100)
	m := mapOf(t, a, 1, 2, 3)
	l := m.List()
	l[0], l[1], l[2] = api.Pair{}, api.Pair{Key: 9}, api.Pair{}
	_ = append(l[:1], api.Pair{Key: 8})
	wantMap(t, "behind a change of its list", m, pairsOf(1, 2, 3))
}

func TestMapsOfOneArena(t *testing.T) {
	a := arena.New(1000)
	for n := range 6 {
		if _, why := a.Put(api.Cell{Left: n, Right: n, Key: 40 - n, Val: n, Size: 9, High: 9}); why != api.OK {
			t.Fatalf("a cell by hand: error %d", why)
		}
	}
	one, two := pmap.New(a), pmap.New(a)
	for key := range 20 {
		one = wantPut(t, a, one, key, valueOf(key))
		two = wantPut(t, a, two, -key, valueOf(-key))
	}
	one = wantDel(t, a, one, 7)
	wantMap(t, "the first", wantPut(t, a, one, 7, valueOf(7)), pairsOf(upTo(20)...))
	var keys []int
	for _, key := range upTo(20) {
		keys = append(keys, -key)
	}
	wantMap(t, "the second", two, pairsOf(keys...))
}

// 6.2

func TestPutOfAKeyThatIsThere(t *testing.T) {
	a := arena.New(10000)
	m := mapOf(t, a, upTo(20)...)
	for _, key := range upTo(20) {
		for _, val := range []int{0, -1, 77, valueOf(key), math.MinInt, math.MaxInt} {
			want := pairsOf(upTo(20)...)
			want[key].Val = val
			wantMap(t, "another value", wantPut(t, a, m, key, val), want)
		}
	}
	wantMap(t, "the map itself", m, pairsOf(upTo(20)...))
}

func TestDelOfEachKey(t *testing.T) {
	for size := range 34 {
		a := arena.New(20000)
		m := mapOf(t, a, upTo(size)...)
		for key := range size {
			rest := slices.Delete(upTo(size), key, key+1)
			wantMap(t, "without one", wantDel(t, a, m, key), pairsOf(rest...))
		}
		wantMap(t, "the map itself", m, pairsOf(upTo(size)...))
	}
}

func TestDelOfNoKey(t *testing.T) {
	for _, size := range []int{0, 1, 2, 9} {
		a := arena.New(200)
		m := pmap.New(a)
		for _, i := range upTo(size) {
			m = wantPut(t, a, m, 10*i, valueOf(10*i))
		}
		had := a.Len()
		for _, key := range append(far(), -10, -9, 1, 5, 9, 11, 10*size, 10*size+1) {
			told, why := m.Del(key)
			if why != api.ErrNone || a.Len() != had {
				t.Fatalf("Del(%d) of %d keys: error %d, %d cells taken", key, size, why, a.Len()-had)
			}
			wantMap(t, "beside an error", told, nil)
		}
		told, _ := m.Del(5)
		wantNothing(t, "Del of no key", told, a)
	}
}

func TestDelOfNoKeyIsToldAheadOfTheRoom(t *testing.T) {
	a := arena.New(1)
	m := mapOf(t, a, 4)
	if _, why := m.Del(5); why != api.ErrNone {
		t.Errorf("of a full arena: error %d", why)
	}
	if _, why := pmap.New(a).Del(4); why != api.ErrNone {
		t.Errorf("of a map without keys: error %d", why)
	}
}

func TestDelOfTheLastKeyNeedsNoRoom(t *testing.T) {
	a := arena.New(1)
	m, why := mapOf(t, a, 4).Del(4)
	if why != api.OK || a.Len() != 1 {
		t.Fatalf("error %d, %d cells", why, a.Len())
	}
	wantMap(t, "without its last key", m, nil)
	if _, why := m.Put(4, 4); why != api.ErrFull {
		t.Errorf("Put: error %d", why)
	}
}

func TestTheDocumentsMap(t *testing.T) {
	a := arena.New(2)
	one, why := pmap.New(a).Put(1, 5)
	if why != api.OK || a.Len() != 1 {
		t.Fatalf("Put(1, 5): error %d, %d cells", why, a.Len())
	}
	two, why := one.Put(2, 6)
	if why != api.ErrFull || a.Len() != 1 {
		t.Fatalf("Put(2, 6): error %d, %d cells", why, a.Len())
	}
	wantMap(t, "the first", one, []api.Pair{{Key: 1, Val: 5}})
	wantMap(t, "the second", two, nil)
	two, why = two.Put(2, 6)
	if why != api.OK || a.Len() != 2 {
		t.Fatalf("Put(2, 6) of what was told beside the error: error %d, %d cells", why, a.Len())
	}
	wantMap(t, "of the same arena", two, []api.Pair{{Key: 2, Val: 6}})
	wantMap(t, "the first", one, []api.Pair{{Key: 1, Val: 5}})
}

func TestAFullArenaTakesNothing(t *testing.T) {
	for _, room := range []int{0, 1} {
		a := arena.New(room)
		m := mapOf(t, a, upTo(room)...)
		for _, p := range []api.Pair{{Key: 0, Val: 1}, {Key: 1, Val: 1}, {Key: -1}, {Key: math.MaxInt, Val: math.MinInt}} {
			told, why := m.Put(p.Key, p.Val)
			if why != api.ErrFull || a.Len() != room {
				t.Fatalf("Put(%d, %d) of room %d: error %d, %d cells", p.Key, p.Val, room, why, a.Len())
			}
			wantNothing(t, "beside an error", told, a)
		}
		wantMap(t, "a full one", m, pairsOf(upTo(room)...))
	}
}

// edit is a Put, or a Del, that a map of some keys has room for or not.
type edit func(m pmap.Map) (pmap.Map, api.Errno)

// wantRoom looks whether an edit does with just the cells that it needs, and with none fewer.
func wantRoom(t *testing.T, what string, keys []int, do edit, want []api.Pair) {
	t.Helper()
	wide := arena.New(api.MaxCells)
	m := mapOf(t, wide, keys...)
	had := wide.Len()
	if _, why := do(m); why != api.OK {
		t.Fatalf("%s: error %d", what, why)
	}
	need := wide.Len() - had
	if need > mostCells(m) {
		t.Fatalf("%s: %d cells of height %d", what, need, m.High())
	}
	for room := range need + 1 {
		a := arena.New(had + room)
		m := mapOf(t, a, keys...)
		told, why := do(m)
		if room == need {
			if why != api.OK || a.Room() != 0 {
				t.Fatalf("%s with room for %d cells: error %d, %d cells left", what, room, why, a.Room())
			}
			wantMap(t, what, told, want)
		} else {
			if why != api.ErrFull || a.Len() != had {
				t.Fatalf("%s with room for %d of %d cells: error %d, %d cells taken", what, room, need, why, a.Len()-had)
			}
			wantNothing(t, what, told, a)
		}
		wantMap(t, what+": the map itself", m, pairsOf(keys...))
	}
}

func TestEditsNeedRoomForAllTheirCells(t *testing.T) {
	for _, size := range []int{0, 1, 2, 3, 4, 7, 12, 20, 33} {
		var keys []int
		for _, i := range upTo(size) {
			keys = append(keys, 2*i)
		}
		if size%2 == 0 {
			slices.Reverse(keys)
		}
		for key := -1; key <= 2*size; key++ {
			put := func(m pmap.Map) (pmap.Map, api.Errno) { return m.Put(key, valueOf(key)) }
			wantRoom(t, "Put", keys, put, pairsOf(append(slices.Clone(keys), key)...))
		}
		for _, key := range keys {
			del := func(m pmap.Map) (pmap.Map, api.Errno) { return m.Del(key) }
			wantRoom(t, "Del", keys, del, pairsOf(slices.DeleteFunc(slices.Clone(keys), func(k int) bool { return k == key })...))
		}
	}
}

// 6.3

// orders are keys, in ways in which they may come to a map.
func orders(size int) map[string][]int {
	rising := upTo(size)
	falling := slices.Clone(rising)
	slices.Reverse(falling)
	var inward, outward, any []int
	for _, i := range rising {
		inward = append(inward, i/2+i%2*(size-i))
		outward = append(outward, (i%2*2-1)*i)
	}
	for _, i := range rand.New(rand.NewSource(int64(size))).Perm(size) {
		any = append(any, i)
	}
	return map[string][]int{"rising": rising, "falling": falling, "inward": inward, "outward": outward, "any": any}
}

func TestHighOfKeysInAnyOrder(t *testing.T) {
	const size = 2000
	for name, keys := range orders(size) {
		a := arena.New(api.MaxCells)
		m := pmap.New(a)
		for i, key := range keys {
			m = wantPut(t, a, m, key, valueOf(key))
			wantHigh(t, name, m)
			if m.Len() != i+1 {
				t.Fatalf("%s: Len %d behind %d keys", name, m.Len(), i+1)
			}
		}
		wantMap(t, name, m, pairsOf(keys...))
	}
}

// roomy moves a map to a new arena where it would soon lack room in its own.
func roomy(t *testing.T, a *arena.Arena, m pmap.Map) (*arena.Arena, pmap.Map) {
	t.Helper()
	if a.Room() >= mostCells(m) {
		return a, m
	}
	next := arena.New(api.MaxCells)
	moved, why := m.Move(next)
	if why != api.OK {
		t.Fatalf("Move of %d keys: error %d", m.Len(), why)
	}
	return next, moved
}

func TestHighWhileKeysGo(t *testing.T) {
	const size = 2000
	for name, gone := range orders(size) {
		a := arena.New(api.MaxCells)
		m := mapOf(t, a, upTo(size)...)
		left := map[int]bool{}
		for _, key := range upTo(size) {
			left[key] = true
		}
		for _, key := range gone {
			if !left[key] {
				continue
			}
			a, m = roomy(t, a, m)
			m = wantDel(t, a, m, key)
			delete(left, key)
			wantHigh(t, name, m)
			if m.Len() != len(left) {
				t.Fatalf("%s: Len %d, want %d", name, m.Len(), len(left))
			}
		}
	}
}

// longest tells how many cells of an arena stand at most one below the other.
func longest(a *arena.Arena) int {
	most := 0
	below := make([]int, a.Len()+1)
	for i := 1; i <= a.Len(); i++ {
		c, _ := a.Get(i)
		below[i] = 1 + max(below[c.Left], below[c.Right])
		most = max(most, below[i])
	}
	return most
}

func TestHighIsHowHighTheCellsStand(t *testing.T) {
	for size := range 70 {
		a, b := arena.New(api.MaxCells), arena.New(size)
		m, why := mapOf(t, a, upTo(size)...).Move(b)
		if why != api.OK || b.Len() != size {
			t.Fatalf("Move of %d keys: error %d, %d cells", size, why, b.Len())
		}
		if m.High() != longest(b) {
			t.Fatalf("of %d keys: High %d, and the cells stand %d high", size, m.High(), longest(b))
		}
	}
}

func TestMoveTakesACellForEachPair(t *testing.T) {
	for _, size := range []int{0, 1, 2, 3, 5, 31, 32, 33, 200} {
		a := arena.New(api.MaxCells)
		m := mapOf(t, a, upTo(size)...)
		had := a.Len()
		for _, ahead := range []int{0, 1, 4} {
			for _, room := range []int{0, 1, 50} {
				b := arena.New(ahead + size + room)
				for range ahead {
					b.Put(api.Cell{Key: 3, Val: 4, Size: 5, High: 6})
				}
				moved, why := m.Move(b)
				if why != api.OK || b.Len() != ahead+size || a.Len() != had {
					t.Fatalf("Move of %d keys: error %d, %d cells", size, why, b.Len()-ahead)
				}
				wantMap(t, "moved", moved, pairsOf(upTo(size)...))
			}
		}
		wantMap(t, "the map itself", m, pairsOf(upTo(size)...))
	}
}

func TestMoveWithoutRoom(t *testing.T) {
	for _, size := range []int{1, 2, 3, 5, 31, 200} {
		a := arena.New(api.MaxCells)
		m := mapOf(t, a, upTo(size)...)
		had := a.Len()
		for _, ahead := range []int{0, 1, 4} {
			for _, room := range []int{0, 1, size / 2, size - 1} {
				if room >= size {
					continue
				}
				b := arena.New(ahead + room)
				for range ahead {
					b.Put(api.Cell{})
				}
				told, why := m.Move(b)
				if why != api.ErrFull || b.Len() != ahead || a.Len() != had {
					t.Fatalf("Move of %d keys to room for %d: error %d, %d cells put", size, room, why, b.Len()-ahead)
				}
				wantNothing(t, "beside an error", told, b)
			}
		}
		wantMap(t, "the map itself", m, pairsOf(upTo(size)...))
	}
}

func TestMoveWithinTheArena(t *testing.T) {
	a := arena.New(100)
	m := mapOf(t, a, 1, 2, 3, 4, 5)
	had := a.Len()
	moved, why := m.Move(a)
	if why != api.OK || a.Len() != had+5 {
		t.Fatalf("error %d, %d cells", why, a.Len()-had)
	}
	wantMap(t, "moved", wantDel(t, a, moved, 3), pairsOf(1, 2, 4, 5))
	wantMap(t, "the map itself", m, pairsOf(1, 2, 3, 4, 5))
}

func TestAMovedMapHasItsOwnArena(t *testing.T) {
	a, b := arena.New(1000), arena.New(1000)
	moved, why := mapOf(t, a, upTo(20)...).Move(b)
	if why != api.OK {
		t.Fatalf("error %d", why)
	}
	a.Cut(0)
	wantMap(t, "behind a cut of where it was", moved, pairsOf(upTo(20)...))
	next := wantPut(t, b, moved, 20, valueOf(20))
	if a.Len() != 0 || b.Len() == 20 {
		t.Fatalf("Put behind Move: %d cells in the old arena, %d in the new one", a.Len(), b.Len())
	}
	wantMap(t, "with one more", next, pairsOf(upTo(21)...))
}

// 6.4

func TestMapsWithoutAnArena(t *testing.T) {
	var zero pmap.Map
	for name, m := range map[string]pmap.Map{"zero": zero, "of nil": pmap.New(nil), "without room": pmap.New(arena.New(0))} {
		wantMap(t, name, m, nil)
		for _, key := range append(far(), 0, 1) {
			if told, why := m.Put(key, 1); why != api.ErrFull || told.Len() != 0 || len(told.List()) != 0 {
				t.Errorf("%s: Put(%d): error %d, %v", name, key, why, told.List())
			}
			if told, why := m.Del(key); why != api.ErrNone || told.Len() != 0 || len(told.List()) != 0 {
				t.Errorf("%s: Del(%d): error %d, %v", name, key, why, told.List())
			}
		}
		a := arena.New(1)
		moved, why := m.Move(a)
		if why != api.OK || a.Len() != 0 {
			t.Errorf("%s: Move: error %d, %d cells", name, why, a.Len())
		}
		wantNothing(t, name+", moved", moved, a)
		if told, why := m.Move(nil); why != api.OK || told.Len() != 0 {
			t.Errorf("%s: Move to nil: error %d", name, why)
		}
	}
}

func TestMoveToANilArena(t *testing.T) {
	a := arena.New(9)
	m := mapOf(t, a, 4)
	told, why := m.Move(nil)
	if why != api.ErrFull {
		t.Fatalf("error %d", why)
	}
	wantMap(t, "beside an error", told, nil)
	if _, why := told.Put(1, 1); why != api.ErrFull {
		t.Errorf("Put of that: error %d", why)
	}
	wantMap(t, "the map itself", m, pairsOf(4))
}

// 6.5

// kept is a map, and what it was when it was told.
type kept struct {
	m     pmap.Map
	pairs []api.Pair
}

// listOf tells what a map of a model should list.
func listOf(model map[int]int) []api.Pair {
	var l []api.Pair
	for key, val := range model {
		l = append(l, api.Pair{Key: key, Val: val})
	}
	slices.SortFunc(l, func(a, b api.Pair) int { return a.Key - b.Key })
	return l
}

// wantAll looks at all maps that were kept.
func wantAll(t *testing.T, l []kept) {
	t.Helper()
	for _, k := range l {
		wantMap(t, "kept", k.m, k.pairs)
	}
}

func TestMapsStayAsTheyWere(t *testing.T) {
	for seed := range 30 {
		from := rand.New(rand.NewSource(int64(seed)))
		a := arena.New(api.MaxCells)
		var all []kept
		m, model := pmap.New(a), map[int]int{}
		for range 250 {
			key := from.Intn(60) - 20
			_, there := model[key]
			switch {
			case from.Intn(3) > 0:
				model[key] = from.Int() - from.Int()
				m = wantPut(t, a, m, key, model[key])
			case there:
				delete(model, key)
				m = wantDel(t, a, m, key)
			default:
				if told, why := m.Del(key); why != api.ErrNone || told.Len() != 0 {
					t.Fatalf("Del(%d): error %d", key, why)
				}
			}
			pairs := listOf(model)
			wantMap(t, "as it is", m, pairs)
			all = append(all, kept{m, pairs})
		}
		wantAll(t, all)
	}
}

func TestMapsStayAsTheyWereWhereverTheyGoOn(t *testing.T) {
	from := rand.New(rand.NewSource(65))
	a := arena.New(900)
	all := []kept{{pmap.New(a), nil}}
	refused := 0
	for range 3000 {
		k, key := all[from.Intn(len(all))], from.Intn(30)
		had := a.Len()
		told, model, why := editAny(from, k, key)
		switch {
		case why == api.OK:
			all = append(all, kept{told, listOf(model)})
		case why == api.ErrFull && a.Room() < mostCells(k.m):
			refused++
		case why != api.ErrNone || slices.ContainsFunc(k.pairs, func(p api.Pair) bool { return p.Key == key }):
			t.Fatalf("error %d with room for %d", why, a.Room())
		}
		if why != api.OK && (a.Len() != had || told.Len() != 0) {
			t.Fatalf("error %d: %d cells taken, %d keys", why, a.Len()-had, told.Len())
		}
	}
	if refused == 0 {
		t.Fatalf("nothing was refused")
	}
	wantAll(t, all)
}

// editAny puts a key into a map, or takes it out, and tells what the map should have then.
func editAny(from *rand.Rand, k kept, key int) (pmap.Map, map[int]int, api.Errno) {
	model := map[int]int{}
	for _, p := range k.pairs {
		model[p.Key] = p.Val
	}
	if from.Intn(4) == 0 {
		delete(model, key)
		told, why := k.m.Del(key)
		return told, model, why
	}
	model[key] = from.Intn(1000)
	told, why := k.m.Put(key, model[key])
	return told, model, why
}

// of all

func TestEachCallEndsIfTheArenaWasChanged(t *testing.T) {
	a := arena.New(api.MaxCells)
	m := mapOf(t, a, upTo(40)...)
	had := a.Len()
	for _, size := range []int{0, -1, 7, math.MinInt, math.MaxInt} {
		for _, full := range []int{0, had, had + 1, api.MaxCells} {
			a.Cut(0)
			for n := range full {
				if _, why := a.Put(api.Cell{Left: n, Right: n, Key: n, Val: n, Size: size + n, High: size - n}); why != api.OK {
					t.Fatalf("a cell by hand: error %d", why)
				}
			}
			m.List()
			m.Move(arena.New(9))
			for _, key := range append(far(), 0, 1, 5, had-1, had, had+1, m.Len()) {
				m.Get(key)
				m.At(key)
				m.Rank(key)
				m.Put(key, 5)
				m.Del(key)
			}
		}
	}
}
