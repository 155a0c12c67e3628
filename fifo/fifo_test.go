package fifo_test

import (
	"math"
	"math/rand"
	"slices"
	"testing"

	"tenter/api"
	"tenter/fifo"
)

// line is what queues and stacks have in common.
type line interface {
	Push(x int) api.Errno
	Pop() (int, bool)
	First() (int, bool)
	Len() int
	Room() int
	List() []int
}

// kind is a queue or a stack: how it is made, and what it lists once some numbers were put into it.
type kind struct {
	name  string
	make  func(room int) line
	lists func(put []int) []int
	none  line
}

func kinds() []kind {
	return []kind{
		{"queue", func(room int) line { return fifo.New(room) }, slices.Clone[[]int], (*fifo.Queue)(nil)},
		{"stack", func(room int) line { return fifo.NewStack(room) }, backward, (*fifo.Stack)(nil)},
	}
}

func backward(put []int) []int {
	l := slices.Clone(put)
	slices.Reverse(l)
	return l
}

// rooms are small ones, those around powers of two, and those at the end of what there may be.
func rooms() []int {
	return []int{0, 1, 2, 3, 4, 5, 7, 8, 9, 15, 16, 17, 100, api.MaxCells - 1, api.MaxCells}
}

// anyNumbers are those at the ends of all numbers, and some in between.
func anyNumbers() []int {
	return []int{0, 1, -1, 7, 7, math.MaxInt32, math.MinInt32, math.MaxInt, math.MinInt, math.MaxInt - 1, math.MinInt + 1}
}

// nums tells so many numbers, each one unlike the others, and unlike its place.
func nums(size int) []int {
	var l []int
	for i := range size {
		l = append(l, i*3^0x5555)
	}
	return l
}

// wantLine looks at a queue or a stack by all calls that tell of it.
func wantLine(t *testing.T, what string, x line, room int, l []int) {
	t.Helper()
	if x.Len() != len(l) || x.Room() != room-len(l) {
		t.Fatalf("%s: Len %d, Room %d; want %d, %d", what, x.Len(), x.Room(), len(l), room-len(l))
	}
	if got := x.List(); !slices.Equal(got, l) {
		t.Fatalf("%s: List %v, want %v", what, got, l)
	}
	want := 0
	if len(l) > 0 {
		want = l[0]
	}
	if got, there := x.First(); got != want || there != (len(l) > 0) {
		t.Fatalf("%s: First %d, %v; want %d of %d", what, got, there, want, len(l))
	}
}

// wantPush puts a number in that there is room for.
func wantPush(t *testing.T, what string, x line, n int) {
	t.Helper()
	if why := x.Push(n); why != api.OK {
		t.Fatalf("%s: Push(%d): error %d", what, n, why)
	}
}

// wantPop takes the first one, which is there.
func wantPop(t *testing.T, what string, x line, want int) {
	t.Helper()
	if got, there := x.Pop(); !there || got != want {
		t.Fatalf("%s: Pop: %d, %v; want %d", what, got, there, want)
	}
}

// wantEmpty takes from where there is nothing.
func wantEmpty(t *testing.T, what string, x line, room int) {
	t.Helper()
	for range 2 {
		if got, there := x.Pop(); there || got != 0 {
			t.Fatalf("%s: Pop of none: %d, %v", what, got, there)
		}
		wantLine(t, what, x, room, nil)
	}
}

// wantFull puts numbers in where there is no room.
func wantFull(t *testing.T, what string, x line) {
	t.Helper()
	size, l := x.Len(), x.List()
	for _, n := range anyNumbers() {
		if why := x.Push(n); why != api.ErrFull {
			t.Fatalf("%s: Push(%d) without room: error %d", what, n, why)
		}
	}
	wantLine(t, what, x, size, l)
}

// filled makes one of a room, with some numbers.
func filled(t *testing.T, s kind, room int, l []int) line {
	t.Helper()
	x := s.make(room)
	for _, n := range l {
		wantPush(t, s.name, x, n)
	}
	return x
}

// 8.1

func TestNewIsEmptyAndHasTheRoom(t *testing.T) {
	for _, s := range kinds() {
		for _, room := range rooms() {
			x := s.make(room)
			wantLine(t, s.name, x, room, nil)
			wantEmpty(t, s.name, x, room)
		}
	}
}

func TestNewBoundsTheRoom(t *testing.T) {
	want := map[int]int{
		-1: 0, -api.MaxCells: 0, math.MinInt32: 0, math.MinInt: 0,
		api.MaxCells + 1: api.MaxCells, 1 << 20: api.MaxCells, math.MaxInt32: api.MaxCells, math.MaxInt: api.MaxCells,
	}
	for _, s := range kinds() {
		for room, most := range want {
			x := s.make(room)
			wantLine(t, s.name, x, most, nil)
			if most == 0 {
				wantFull(t, s.name, x)
			}
		}
	}
}

func TestPushUpToTheRoom(t *testing.T) {
	for _, s := range kinds() {
		for _, room := range rooms() {
			x := filled(t, s, room, nums(room))
			wantLine(t, s.name, x, room, s.lists(nums(room)))
			wantFull(t, s.name, x)
			for _, n := range s.lists(nums(room)) {
				wantPop(t, s.name, x, n)
			}
			wantEmpty(t, s.name, x, room)
		}
	}
}

func TestTheDocumentsQueueAndStack(t *testing.T) {
	q, s := fifo.New(9), fifo.NewStack(9)
	for _, n := range []int{1, 2, 3} {
		wantPush(t, "queue", q, n)
		wantPush(t, "stack", s, n)
	}
	wantLine(t, "queue", q, 9, []int{1, 2, 3})
	wantLine(t, "stack", s, 9, []int{3, 2, 1})
}

func TestAnyNumbersAreTold(t *testing.T) {
	for _, s := range kinds() {
		x := s.make(20)
		var put []int
		for _, n := range anyNumbers() {
			wantPush(t, s.name, x, n)
			put = append(put, n)
			wantLine(t, s.name, x, 20, s.lists(put))
		}
		for l := s.lists(put); len(l) > 0; l = l[1:] {
			wantLine(t, s.name, x, 20, l)
			wantPop(t, s.name, x, l[0])
		}
		wantEmpty(t, s.name, x, 20)
	}
}

func TestAPopMakesRoom(t *testing.T) {
	for _, s := range kinds() {
		for _, room := range []int{1, 2, 3, 4, 5, 8, 9} {
			put := nums(room)
			x := filled(t, s, room, put)
			for n := range 40 {
				wantFull(t, s.name, x)
				first := s.lists(put)[0]
				wantPop(t, s.name, x, first)
				gone := slices.Index(put, first)
				put = append(slices.Delete(slices.Clone(put), gone, gone+1), -n)
				wantPush(t, s.name, x, -n)
				wantLine(t, s.name, x, room, s.lists(put))
			}
		}
	}
}

func TestAListIsNewMemory(t *testing.T) {
	for _, s := range kinds() {
		x := filled(t, s, 9, []int{1, 2, 3})
		l := x.List()
		l[0], l[1], l[2] = 7, 8, 9
		_ = append(l, 6)
		wantLine(t, s.name, x, 9, s.lists([]int{1, 2, 3}))
		l = x.List()
		want := slices.Clone(l)
		wantPush(t, s.name, x, 4)
		wantPop(t, s.name, x, x.List()[0])
		wantPush(t, s.name, x, 5)
		if !slices.Equal(l, want) {
			t.Fatalf("%s: a list that was told is %v, and was %v", s.name, l, want)
		}
	}
}

func TestEachHasItsOwnNumbers(t *testing.T) {
	for _, s := range kinds() {
		x, y := filled(t, s, 4, []int{1, 2}), filled(t, s, 4, []int{3})
		wantPush(t, s.name, y, 4)
		wantPop(t, s.name, x, s.lists([]int{1, 2})[0])
		wantLine(t, s.name, x, 4, s.lists([]int{1, 2})[1:])
		wantLine(t, s.name, y, 4, s.lists([]int{3, 4}))
	}
}

// 8.2

func TestNilOnes(t *testing.T) {
	for _, s := range kinds() {
		for name, x := range map[string]line{"nil " + s.name: s.none, s.name + " without room": s.make(0)} {
			wantLine(t, name, x, 0, nil)
			wantFull(t, name, x)
			wantEmpty(t, name, x, 0)
		}
	}
}

// 8.3

func TestInTurn(t *testing.T) {
	for _, s := range kinds() {
		for _, room := range []int{0, 1, 2, 3, 4, 5, 7, 8, 9, 31, 32, 33} {
			for seed := range 20 {
				wantInTurn(t, s, room, rand.New(rand.NewSource(int64(seed))))
			}
		}
	}
}

// wantInTurn puts in and takes out, anyhow, and holds that against a list.
func wantInTurn(t *testing.T, s kind, room int, from *rand.Rand) {
	t.Helper()
	x := s.make(room)
	var put []int
	for range 200 {
		switch in := from.Intn(9) < 5; {
		case in && len(put) == room:
			wantFull(t, s.name, x)
		case in:
			n := from.Intn(50) - 9
			wantPush(t, s.name, x, n)
			put = append(put, n)
		case len(put) == 0:
			wantEmpty(t, s.name, x, room)
		default:
			l := s.lists(put)
			wantPop(t, s.name, x, l[0])
			// What lists turns, it turns back.
			put = s.lists(l[1:])
		}
		wantLine(t, s.name, x, room, s.lists(put))
	}
}

func TestAQueueGoesRoundAndRound(t *testing.T) {
	for _, room := range []int{1, 2, 3, 5, 8, 1000, api.MaxCells} {
		q := fifo.New(room)
		next := 0
		for n := range 3 * room {
			if q.Room() == 0 {
				wantPop(t, "queue", q, next)
				next++
			}
			wantPush(t, "queue", q, n)
		}
		for ; next < 3*room; next++ {
			wantPop(t, "queue", q, next)
		}
		wantEmpty(t, "queue", q, room)
	}
}
