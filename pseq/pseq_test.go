package pseq_test

import (
	"math"
	"math/bits"
	"math/rand"
	"slices"
	"testing"

	"tenter/api"
	"tenter/arena"
	"tenter/pseq"
)

// far are numbers that are no place of a sequence; as what stands in one they are like any other ones.
func far() []int {
	return []int{
		-1, -2, api.MaxCells, api.MaxCells + 1, math.MinInt32, math.MaxInt32, 1 << 62, 1<<62 - 1, -1 << 62, -1<<62 - 1,
		math.MinInt, math.MinInt + 1, math.MaxInt - 1, math.MaxInt,
	}
}

// nums tells so many numbers, each one unlike the others, and unlike its place.
func nums(size int) []int {
	var l []int
	for i := range size {
		l = append(l, i*3^0x5555)
	}
	return l
}

// seqOf puts numbers into a sequence, one behind the other.
func seqOf(t *testing.T, a *arena.Arena, l ...int) pseq.Seq {
	t.Helper()
	s := pseq.New(a)
	for i, val := range l {
		s = wantEdit(t, "Insert", a, s, inserting(i, val))
	}
	return s
}

// edit is a call that tells another sequence.
type edit func(s pseq.Seq) (pseq.Seq, api.Errno)

func inserting(i, val int) edit {
	return func(s pseq.Seq) (pseq.Seq, api.Errno) { return s.Insert(i, val) }
}

func setting(i, val int) edit {
	return func(s pseq.Seq) (pseq.Seq, api.Errno) { return s.Set(i, val) }
}

func deleting(i int) edit {
	return func(s pseq.Seq) (pseq.Seq, api.Errno) { return s.Del(i) }
}

// withIn, withAt and without tell what the numbers are behind an edit.
func withIn(l []int, i, val int) []int { return slices.Insert(slices.Clone(l), i, val) }

func withAt(l []int, i, val int) []int {
	l = slices.Clone(l)
	l[i] = val
	return l
}

func without(l []int, i int) []int { return slices.Delete(slices.Clone(l), i, i+1) }

// mostCells tells how many cells an edit of a sequence may need.
func mostCells(s pseq.Seq) int { return 3*s.High() + 3 }

// wantEdit edits a sequence where there is room enough, and looks how many cells that took.
func wantEdit(t *testing.T, what string, a *arena.Arena, s pseq.Seq, do edit) pseq.Seq {
	t.Helper()
	had := a.Len()
	next, why := do(s)
	if took := a.Len() - had; why != api.OK || took < 0 || took > mostCells(s) {
		t.Fatalf("%s, of %d numbers: error %d, %d cells taken", what, s.Len(), why, took)
	}
	return next
}

// wantRefused looks whether an edit is refused, and what is told beside the error.
func wantRefused(t *testing.T, what string, a *arena.Arena, s pseq.Seq, do edit, fault api.Errno) {
	t.Helper()
	had, room := a.Len(), a.Room()
	told, why := do(s)
	if why != fault || a.Len() != had || a.Room() != room {
		t.Fatalf("%s, of %d numbers: error %d, %d cells taken; want error %d", what, s.Len(), why, a.Len()-had, fault)
	}
	wantNothing(t, what, told, a)
}

// wantNothing looks at a sequence that is told beside an error: it has no numbers, and lies in an arena, of which it takes a cell if there is one. The arena is as it was behind that.
func wantNothing(t *testing.T, what string, s pseq.Seq, a *arena.Arena) {
	t.Helper()
	wantSeq(t, what, s, nil)
	had, room := a.Len(), a.Room()
	next, why := s.Insert(0, 6)
	if room == 0 {
		if why != api.ErrFull {
			t.Fatalf("%s: Insert where there is no room: error %d", what, why)
		}
		return
	}
	if why != api.OK || a.Len() != had+1 {
		t.Fatalf("%s: Insert where there is room: error %d, %d cells taken", what, why, a.Len()-had)
	}
	wantSeq(t, what, next, []int{6})
	a.Cut(had)
}

// wantHigh looks whether the height lies between what so many numbers need and what they may have.
func wantHigh(t *testing.T, what string, s pseq.Seq) {
	t.Helper()
	size, high := s.Len(), s.High()
	if least := bits.Len(uint(size)); high < least || high > size {
		t.Fatalf("%s: High %d of %d numbers", what, high, size)
	}
	if high > 40 || 1<<high > (size+1)*(size+1) {
		t.Fatalf("%s: High %d of %d numbers: too much", what, high, size)
	}
}

// wantSeq looks at a sequence by all calls that tell of it.
func wantSeq(t *testing.T, what string, s pseq.Seq, l []int) {
	t.Helper()
	if s.Len() != len(l) {
		t.Fatalf("%s: Len %d, want %d", what, s.Len(), len(l))
	}
	if got := s.List(); !slices.Equal(got, l) {
		t.Fatalf("%s: List %v, want %v", what, got, l)
	}
	wantHigh(t, what, s)
	for i, val := range l {
		if got, there := s.At(i); !there || got != val {
			t.Fatalf("%s: At(%d): %d, %v; want %d", what, i, got, there, val)
		}
		wantIndex(t, what, s, l, val)
		wantIndex(t, what, s, l, val+1)
	}
	for _, i := range append(far(), len(l), len(l)+1) {
		if got, there := s.At(i); there || got != 0 {
			t.Fatalf("%s: At(%d) of %d numbers: %d, %v", what, i, len(l), got, there)
		}
	}
	for _, val := range append(far(), 0) {
		wantIndex(t, what, s, l, val)
	}
}

// wantIndex looks for a number that may stand somewhere, or nowhere.
func wantIndex(t *testing.T, what string, s pseq.Seq, l []int, val int) {
	t.Helper()
	if got, want := s.Index(val), slices.Index(l, val); got != want {
		t.Fatalf("%s: Index(%d) is %d, want %d", what, val, got, want)
	}
}

// 7.1

func TestNewHasNothing(t *testing.T) {
	for _, room := range []int{0, 1, 9, api.MaxCells} {
		a := arena.New(room)
		s := pseq.New(a)
		if a.Len() != 0 {
			t.Fatalf("New took %d cells", a.Len())
		}
		wantNothing(t, "New", s, a)
	}
}

func TestASequenceTellsItsNumbers(t *testing.T) {
	for _, l := range [][]int{
		{7}, {0}, {0, 0}, {1, 2}, {2, 1}, {3, 3, 3}, {5, -5, 5, 0, -5, 0},
		{math.MaxInt, math.MinInt, 0, -1, 1, math.MaxInt, math.MinInt},
		{10, 20, 30, 40, 50, 25, 35, 5, 15, 45}, {1, 1, 2, 2, 3, 3, 1, 2, 3},
	} {
		a := arena.New(1000)
		wantSeq(t, "of some numbers", seqOf(t, a, l...), l)
	}
}

func TestIndexIsTheFirstPlace(t *testing.T) {
	const size = 20
	a := arena.New(20000)
	for first := range size {
		for again := first; again < size; again++ {
			l := withAt(withAt(nums(size), first, -7), again, -7)
			s, why := pseq.Of(a, l...)
			if why != api.OK || s.Index(-7) != first {
				t.Fatalf("error %d; Index of what stands at %d and %d is %d", why, first, again, s.Index(-7))
			}
		}
	}
}

func TestAListIsNewMemory(t *testing.T) {
	a := arena.New(100)
	s := seqOf(t, a, 1, 2, 3)
	l := s.List()
	l[0], l[1], l[2] = 7, 8, 9
	_ = append(l[:1], 6)
	wantSeq(t, "behind a change of its list", s, []int{1, 2, 3})
}

func TestSequencesOfOneArena(t *testing.T) {
	a := arena.New(1000)
	for n := range 6 {
		if _, why := a.Put(api.Cell{Left: n, Right: n, Key: 40 - n, Val: n, Size: 9, High: 9}); why != api.OK {
			t.Fatalf("a cell by hand: error %d", why)
		}
	}
	one, two := pseq.New(a), pseq.New(a)
	for i := range 20 {
		one = wantEdit(t, "Insert", a, one, inserting(i, i))
		two = wantEdit(t, "Insert", a, two, inserting(0, i))
	}
	want := one.List()
	one = wantEdit(t, "Del", a, one, deleting(7))
	wantSeq(t, "the first", one, without(want, 7))
	slices.Reverse(want)
	wantSeq(t, "the second", two, want)
}

// 7.2

func TestTheDocumentsSequence(t *testing.T) {
	a := arena.New(100)
	one := wantEdit(t, "Insert", a, pseq.New(a), inserting(0, 7))
	wantSeq(t, "the first", one, []int{7})
	two := wantEdit(t, "Insert", a, one, inserting(0, 8))
	wantSeq(t, "the second", two, []int{8, 7})
	wantRefused(t, "Insert(3, 9)", a, two, inserting(3, 9), api.ErrRange)
	wantSeq(t, "the first", one, []int{7})
	wantSeq(t, "the second", two, []int{8, 7})
}

func TestInsertAtEachPlace(t *testing.T) {
	for size := range 34 {
		a := arena.New(20000)
		l := nums(size)
		s := seqOf(t, a, l...)
		for i := range size + 1 {
			for _, val := range []int{0, -9, math.MinInt, math.MaxInt} {
				wantSeq(t, "with one more", wantEdit(t, "Insert", a, s, inserting(i, val)), withIn(l, i, val))
			}
		}
		wantSeq(t, "the sequence itself", s, l)
	}
}

func TestSetAtEachPlace(t *testing.T) {
	for size := range 34 {
		a := arena.New(20000)
		l := nums(size)
		s := seqOf(t, a, l...)
		for i := range size {
			for _, val := range []int{0, -9, l[i], math.MinInt, math.MaxInt} {
				wantSeq(t, "with another one", wantEdit(t, "Set", a, s, setting(i, val)), withAt(l, i, val))
			}
		}
		wantSeq(t, "the sequence itself", s, l)
	}
}

func TestDelAtEachPlace(t *testing.T) {
	for size := range 70 {
		a := arena.New(api.MaxCells)
		l := nums(size)
		s := seqOf(t, a, l...)
		for i := range size {
			wantSeq(t, "without one", wantEdit(t, "Del", a, s, deleting(i)), without(l, i))
		}
		wantSeq(t, "the sequence itself", s, l)
	}
}

// wantNoPlace looks whether edits are refused at what is no place.
func wantNoPlace(t *testing.T, a *arena.Arena, s pseq.Seq) {
	t.Helper()
	for _, i := range append(far(), s.Len()+1, s.Len()+2) {
		wantRefused(t, "Insert", a, s, inserting(i, 5), api.ErrRange)
	}
	for _, i := range append(far(), s.Len(), s.Len()+1) {
		wantRefused(t, "Set", a, s, setting(i, 5), api.ErrRange)
		wantRefused(t, "Del", a, s, deleting(i), api.ErrRange)
	}
}

func TestEditsAtNoPlace(t *testing.T) {
	for _, size := range []int{0, 1, 2, 3, 9, 40} {
		a := arena.New(1000)
		s := seqOf(t, a, nums(size)...)
		wantNoPlace(t, a, s)
		wantSeq(t, "the sequence itself", s, nums(size))
	}
}

func TestNoPlaceIsToldAheadOfTheRoom(t *testing.T) {
	for _, size := range []int{0, 1, 2, 9} {
		a := arena.New(size)
		s, why := pseq.Of(a, nums(size)...)
		if why != api.OK || a.Room() != 0 {
			t.Fatalf("Of %d numbers: error %d, room %d", size, why, a.Room())
		}
		wantNoPlace(t, a, s)
		wantSeq(t, "the sequence itself", s, nums(size))
	}
}

func TestAFullArenaTakesNothing(t *testing.T) {
	for _, room := range []int{0, 1, 2, 7, 20} {
		a := arena.New(room)
		l := nums(room)
		s, why := pseq.Of(a, l...)
		if why != api.OK || a.Room() != 0 {
			t.Fatalf("Of %d numbers: error %d, room %d", room, why, a.Room())
		}
		for i := range room + 1 {
			wantRefused(t, "Insert", a, s, inserting(i, 5), api.ErrFull)
		}
		for i := range room {
			wantRefused(t, "Set", a, s, setting(i, 5), api.ErrFull)
		}
		wantSeq(t, "the sequence itself", s, l)
	}
}

func TestDelOfTheOnlyNumberNeedsNoRoom(t *testing.T) {
	a := arena.New(1)
	s := wantEdit(t, "Del", a, seqOf(t, a, 4), deleting(0))
	wantSeq(t, "without its only number", s, nil)
	if a.Len() != 1 {
		t.Fatalf("%d cells", a.Len())
	}
	wantRefused(t, "Insert", a, s, inserting(0, 4), api.ErrFull)
}

// wantRoom looks whether an edit does with just the cells that it needs, and with none fewer.
func wantRoom(t *testing.T, what string, l []int, do edit, want []int) {
	t.Helper()
	wide := arena.New(api.MaxCells)
	s := seqOf(t, wide, l...)
	had := wide.Len()
	wantEdit(t, what, wide, s, do)
	need := wide.Len() - had
	for room := range need + 1 {
		a := arena.New(had + room)
		s := seqOf(t, a, l...)
		if room < need {
			wantRefused(t, what, a, s, do, api.ErrFull)
		} else {
			wantSeq(t, what, wantEdit(t, what, a, s, do), want)
		}
		wantSeq(t, what+": the sequence itself", s, l)
	}
}

func TestEditsNeedRoomForAllTheirCells(t *testing.T) {
	for _, size := range []int{0, 1, 2, 3, 4, 7, 12, 20, 33} {
		l := nums(size)
		for i := range size + 1 {
			wantRoom(t, "Insert", l, inserting(i, 5), withIn(l, i, 5))
		}
		for i := range size {
			wantRoom(t, "Set", l, setting(i, 5), withAt(l, i, 5))
			wantRoom(t, "Del", l, deleting(i), without(l, i))
		}
	}
}

// 7.3

// manners are ways to choose one of so many places, again and again.
func manners() map[string]func(n, places int) int {
	from := rand.New(rand.NewSource(73))
	return map[string]func(n, places int) int{
		"at the end":       func(n, places int) int { return places - 1 },
		"at the beginning": func(n, places int) int { return 0 },
		"in the middle":    func(n, places int) int { return places / 2 },
		"at both ends":     func(n, places int) int { return n % 2 * (places - 1) },
		"at a third":       func(n, places int) int { return places / 3 },
		"anywhere":         func(n, places int) int { return from.Intn(places) },
	}
}

// roomy moves a sequence to a new arena where it would soon lack room in its own.
func roomy(t *testing.T, a *arena.Arena, s pseq.Seq) (*arena.Arena, pseq.Seq) {
	t.Helper()
	if a.Room() >= mostCells(s) {
		return a, s
	}
	next := arena.New(api.MaxCells)
	moved, why := s.Move(next)
	if why != api.OK {
		t.Fatalf("Move of %d numbers: error %d", s.Len(), why)
	}
	return next, moved
}

func TestHighWhileNumbersCome(t *testing.T) {
	const size = 2000
	for name, choose := range manners() {
		a := arena.New(api.MaxCells)
		s := pseq.New(a)
		var l []int
		for n := range size {
			i := choose(n, n+1)
			s = wantEdit(t, name, a, s, inserting(i, n))
			l = slices.Insert(l, i, n)
			wantHigh(t, name, s)
		}
		wantSeq(t, name, s, l)
	}
}

func TestHighWhileNumbersGo(t *testing.T) {
	const size = 2000
	for name, choose := range manners() {
		a := arena.New(api.MaxCells)
		l := nums(size)
		s := seqOf(t, a, l...)
		for n := range size {
			i := choose(n, len(l))
			a, s = roomy(t, a, s)
			s = wantEdit(t, name, a, s, deleting(i))
			l = slices.Delete(l, i, i+1)
			wantHigh(t, name, s)
			if n%500 == 250 {
				wantSeq(t, name, s, l)
			}
		}
		wantSeq(t, name, s, nil)
	}
}

func TestEachChangeOfASmallSequence(t *testing.T) {
	for seed := range 60 {
		from := rand.New(rand.NewSource(int64(seed)))
		a := arena.New(api.MaxCells)
		l := nums(from.Intn(40))
		s := pseq.New(a)
		for _, val := range l {
			s = wantEdit(t, "Insert", a, s, inserting(s.Len(), val))
		}
		for len(l) > 0 {
			i := from.Intn(len(l))
			s, l = wantEdit(t, "Del", a, s, deleting(i)), without(l, i)
			wantSeq(t, "without one", s, l)
		}
	}
}

// wantLevel looks whether the cells of an arena have trees below them that differ by one in height at most: from this the promise of High follows, for any edits.
func wantLevel(t *testing.T, what string, a *arena.Arena) {
	t.Helper()
	for i := 1; i <= a.Len(); i++ {
		c, _ := a.Get(i)
		left, _ := a.Get(c.Left)
		right, _ := a.Get(c.Right)
		if lean := left.High - right.High; lean < -1 || lean > 1 {
			t.Fatalf("%s: the cell %d has trees %d and %d high below it", what, i, left.High, right.High)
		}
	}
}

func TestCellsAreLevel(t *testing.T) {
	for name, choose := range manners() {
		a := arena.New(api.MaxCells)
		s := pseq.New(a)
		for n := range 1000 {
			s = wantEdit(t, name, a, s, inserting(choose(n, n+1), n))
		}
		for going, choose := range manners() {
			less := s
			for n := range 300 {
				less = wantEdit(t, going, a, less, deleting(choose(n, less.Len())))
			}
		}
		wantLevel(t, name, a)
	}
}

// longest tells how many cells of an arena stand at most one below the other.
func longest(a *arena.Arena) int {
	most := 0
	below := make([]int, a.Len()+1)
	for i := 1; i <= a.Len(); i++ {
		c, _ := a.Get(i)
		below[i] = 1 + max(below[c.Left], below[c.Right])
		most = max(most, below[i])
	}
	return most
}

func TestHighIsHowHighTheCellsStand(t *testing.T) {
	for size := range 70 {
		a := arena.New(size)
		s, why := pseq.Of(a, nums(size)...)
		if why != api.OK || a.Len() != size {
			t.Fatalf("Of %d numbers: error %d, %d cells", size, why, a.Len())
		}
		if s.High() != longest(a) {
			t.Fatalf("of %d numbers: High %d, and the cells stand %d high", size, s.High(), longest(a))
		}
	}
}

// filled makes an arena with cells of others, and room for so many more.
func filled(t *testing.T, ahead, room int) *arena.Arena {
	t.Helper()
	a := arena.New(ahead + room)
	for range ahead {
		if _, why := a.Put(api.Cell{Key: 3, Val: 4, Size: 5, High: 6}); why != api.OK {
			t.Fatalf("a cell by hand: error %d", why)
		}
	}
	return a
}

// makings are the two ways to come to a sequence of numbers in an arena.
func makings(t *testing.T, l []int) map[string]func(a *arena.Arena) (pseq.Seq, api.Errno) {
	t.Helper()
	s := seqOf(t, arena.New(api.MaxCells), l...)
	return map[string]func(a *arena.Arena) (pseq.Seq, api.Errno){
		"Of":   func(a *arena.Arena) (pseq.Seq, api.Errno) { return pseq.Of(a, l...) },
		"Move": s.Move,
	}
}

func TestOfAndMoveTakeACellForEachNumber(t *testing.T) {
	for _, size := range []int{0, 1, 2, 3, 4, 5, 6, 31, 32, 33, 200} {
		for name, make := range makings(t, nums(size)) {
			for _, ahead := range []int{0, 1, 4} {
				for _, room := range []int{0, 1, 50} {
					a := filled(t, ahead, size+room)
					s, why := make(a)
					if why != api.OK || a.Len() != ahead+size {
						t.Fatalf("%s of %d numbers: error %d, %d cells", name, size, why, a.Len()-ahead)
					}
					wantSeq(t, name, s, nums(size))
				}
			}
		}
	}
}

func TestOfAndMoveWithoutRoom(t *testing.T) {
	for _, size := range []int{1, 2, 3, 4, 5, 31, 200} {
		for name, make := range makings(t, nums(size)) {
			for _, ahead := range []int{0, 1, 4} {
				for _, room := range []int{0, 1, size / 2, size - 1} {
					if room >= size {
						continue
					}
					a := filled(t, ahead, room)
					s, why := make(a)
					if why != api.ErrFull || a.Len() != ahead {
						t.Fatalf("%s of %d numbers, room for %d: error %d, %d cells put", name, size, room, why, a.Len()-ahead)
					}
					wantNothing(t, name, s, a)
				}
			}
		}
	}
}

func TestOfAsManyAsAnArenaMayHave(t *testing.T) {
	a := arena.New(api.MaxCells)
	l := make([]int, api.MaxCells+1)
	for i := range l {
		l[i] = -i
	}
	s, why := pseq.Of(a, l...)
	if why != api.ErrFull || a.Len() != 0 || s.Len() != 0 {
		t.Fatalf("one too many: error %d, %d cells", why, a.Len())
	}
	l = l[:api.MaxCells]
	s, why = pseq.Of(a, l...)
	if why != api.OK || a.Room() != 0 || !slices.Equal(s.List(), l) {
		t.Fatalf("all: error %d, %d cells, %d numbers", why, a.Len(), s.Len())
	}
	wantHigh(t, "all", s)
	if i := s.Index(1 - api.MaxCells); i != api.MaxCells-1 {
		t.Fatalf("Index of the last one: %d", i)
	}
	moved, why := s.Move(arena.New(api.MaxCells))
	if why != api.OK || !slices.Equal(moved.List(), l) {
		t.Fatalf("moved: error %d, %d numbers", why, moved.Len())
	}
}

func TestOfNeitherChangesNorKeepsItsNumbers(t *testing.T) {
	l := []int{5, 3, 4, 1}
	s, why := pseq.Of(arena.New(9), l[:3]...)
	if why != api.OK || !slices.Equal(l, []int{5, 3, 4, 1}) {
		t.Fatalf("error %d, and the numbers are %v", why, l)
	}
	l[0], l[1], l[2] = 0, 0, 0
	wantSeq(t, "behind a change of what was handed in", s, []int{5, 3, 4})
}

func TestMoveWithinTheArena(t *testing.T) {
	a := arena.New(100)
	s := seqOf(t, a, 1, 2, 3, 4, 5)
	had := a.Len()
	moved, why := s.Move(a)
	if why != api.OK || a.Len() != had+5 {
		t.Fatalf("error %d, %d cells", why, a.Len()-had)
	}
	wantSeq(t, "moved", wantEdit(t, "Del", a, moved, deleting(2)), []int{1, 2, 4, 5})
	wantSeq(t, "the sequence itself", s, []int{1, 2, 3, 4, 5})
}

func TestAMovedSequenceHasItsOwnArena(t *testing.T) {
	a, b := arena.New(1000), arena.New(1000)
	moved, why := seqOf(t, a, nums(20)...).Move(b)
	if why != api.OK {
		t.Fatalf("error %d", why)
	}
	a.Cut(0)
	wantSeq(t, "behind a cut of where it was", moved, nums(20))
	next := wantEdit(t, "Insert", b, moved, inserting(20, 9))
	if a.Len() != 0 || b.Len() == 20 {
		t.Fatalf("Insert behind Move: %d cells in the old arena, %d in the new one", a.Len(), b.Len())
	}
	wantSeq(t, "with one more", next, append(nums(20), 9))
}

// 7.4

func TestSequencesWithoutAnArena(t *testing.T) {
	var zero pseq.Seq
	var nowhere *arena.Arena
	none := arena.New(0)
	of, why := pseq.Of(nil)
	if why != api.OK {
		t.Fatalf("Of nil and nothing: error %d", why)
	}
	for name, s := range map[string]pseq.Seq{"zero": zero, "of nil": pseq.New(nil), "Of nil": of, "without room": pseq.New(none)} {
		wantNothing(t, name, s, nowhere)
		wantNoPlace(t, nowhere, s)
		wantRefused(t, name, nowhere, s, inserting(0, 1), api.ErrFull)
		a := arena.New(1)
		moved, why := s.Move(a)
		if why != api.OK || a.Len() != 0 {
			t.Errorf("%s: Move: error %d, %d cells", name, why, a.Len())
		}
		wantNothing(t, name+", moved", moved, a)
		if told, why := s.Move(nil); why != api.OK || told.Len() != 0 {
			t.Errorf("%s: Move to nil: error %d", name, why)
		}
	}
}

func TestOfAndMoveToANilArena(t *testing.T) {
	for _, size := range []int{1, 2, 9} {
		for name, make := range makings(t, nums(size)) {
			s, why := make(nil)
			if why != api.ErrFull {
				t.Fatalf("%s of %d numbers: error %d", name, size, why)
			}
			wantNothing(t, name, s, nil)
		}
	}
}

// 7.5

// kept is a sequence, and what it was when it was told.
type kept struct {
	s pseq.Seq
	l []int
}

// wantAll looks at all sequences that were kept.
func wantAll(t *testing.T, all []kept) {
	t.Helper()
	for _, k := range all {
		wantSeq(t, "kept", k.s, k.l)
	}
}

// editAny tells an edit of a sequence of some numbers, and what these are behind it.
func editAny(from *rand.Rand, l []int) (edit, []int) {
	val := from.Intn(30) - 10
	if way := from.Intn(4); len(l) > 0 && way < 2 {
		i := from.Intn(len(l))
		if way == 0 {
			return deleting(i), without(l, i)
		}
		return setting(i, val), withAt(l, i, val)
	}
	i := from.Intn(len(l) + 1)
	return inserting(i, val), withIn(l, i, val)
}

func TestSequencesStayAsTheyWere(t *testing.T) {
	for seed := range 30 {
		from := rand.New(rand.NewSource(int64(seed)))
		a := arena.New(api.MaxCells)
		all := []kept{{pseq.New(a), nil}}
		for range 250 {
			last := all[len(all)-1]
			do, l := editAny(from, last.l)
			s := wantEdit(t, "any", a, last.s, do)
			wantSeq(t, "as it is", s, l)
			all = append(all, kept{s, l})
		}
		wantAll(t, all)
	}
}

func TestSequencesStayAsTheyWereWhereverTheyGoOn(t *testing.T) {
	from := rand.New(rand.NewSource(75))
	a := arena.New(900)
	all := []kept{{pseq.New(a), nil}}
	refused := 0
	for range 3000 {
		k := all[from.Intn(len(all))]
		do, l := editAny(from, k.l)
		had := a.Len()
		s, why := do(k.s)
		switch {
		case why == api.OK:
			all = append(all, kept{s, l})
		case why != api.ErrFull || a.Len() != had || had+mostCells(k.s) <= 900:
			t.Fatalf("error %d: %d cells taken, room for %d", why, a.Len()-had, a.Room())
		default:
			wantNothing(t, "beside an error", s, a)
			refused++
		}
	}
	if refused == 0 {
		t.Fatalf("nothing was refused")
	}
	wantAll(t, all)
}

func TestWhatIsPutInAndTakenOutLeavesTheSame(t *testing.T) {
	for size := range 34 {
		a := arena.New(api.MaxCells)
		s := seqOf(t, a, nums(size)...)
		for i := range size + 1 {
			in := wantEdit(t, "Insert", a, s, inserting(i, 9))
			wantSeq(t, "put in, taken out", wantEdit(t, "Del", a, in, deleting(i)), nums(size))
		}
		for i := range size {
			val, _ := s.At(i)
			out := wantEdit(t, "Del", a, s, deleting(i))
			wantSeq(t, "taken out, put in", wantEdit(t, "Insert", a, out, inserting(i, val)), nums(size))
		}
	}
}

// of all

func TestEachCallEndsIfTheArenaWasChanged(t *testing.T) {
	a := arena.New(api.MaxCells)
	s := seqOf(t, a, nums(40)...)
	had := a.Len()
	for _, size := range []int{0, -1, 7, math.MinInt, math.MaxInt} {
		for _, full := range []int{0, had, had + 1, api.MaxCells} {
			a.Cut(0)
			for n := range full {
				if _, why := a.Put(api.Cell{Left: n, Right: n, Val: n, Size: size + n, High: size - n}); why != api.OK {
					t.Fatalf("a cell by hand: error %d", why)
				}
			}
			s.List()
			s.Index(-5)
			s.Move(arena.New(9))
			for _, i := range append(far(), 0, 1, 5, 39, 40, s.Len(), s.Len()-1) {
				s.At(i)
				s.Insert(i, 5)
				s.Set(i, 5)
				s.Del(i)
			}
		}
	}
}
