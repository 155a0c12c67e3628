package order_test

import (
	"math"
	"math/rand"
	"slices"
	"testing"

	"tenter/api"
	"tenter/order"
)

// odd are lists by hand, right and not.
var odd = [][]int{
	nil, {}, {1}, {2}, {0}, {-1}, {1, 2}, {2, 1}, {1, 1}, {2, 2}, {0, 0}, {1, 2, 3}, {3, 1, 2}, {3, 2, 1}, {1, 2, 1}, {1, 1, 2}, {2, 1, 1}, {1, 2, 2}, {0, 1, 2}, {1, 0, 2}, {1, 2, 0}, {1, 0, 0, 2},
	{5, 3, 5, 4, 3, 5}, {api.MaxId}, {api.MaxId, 1}, {api.MaxId + 1}, {1, api.MaxId + 1}, {math.MinInt, math.MaxInt, math.MinInt}, {-1, 1}, {1, -1}, {1<<32 + 1, 1},
}

// few are numbers that stand in lists, and some that don't.
var few = []int{0, 1, 2, 3, 4, 5, 6, -1, -2, api.MaxId, api.MaxId + 1, 1<<32 + 1, math.MinInt, math.MaxInt}

// eachList goes through lists by hand, and many of small numbers.
func eachList(t *testing.T, seed int64, look func(l []int, from *rand.Rand)) {
	t.Helper()
	from := rand.New(rand.NewSource(seed))
	for _, l := range odd {
		look(slices.Clone(l), from)
	}
	for range 5000 {
		l := make([]int, from.Intn(9))
		for i := range l {
			l[i] = from.Intn(9) - 1
		}
		look(l, from)
		if t.Failed() {
			return
		}
	}
}

// unchanged makes a call, and looks whether it left its lists alone.
func unchanged(t *testing.T, call func(), lists ...[]int) {
	t.Helper()
	var was [][]int
	for _, l := range lists {
		was = append(was, slices.Clone(l))
	}
	call()
	for i, l := range lists {
		if !slices.Equal(l, was[i]) {
			t.Errorf("a list is %v, and was %v", l, was[i])
		}
	}
}

// wantApart looks whether an answer is memory of its own.
func wantApart(t *testing.T, l []int, call func(l []int) []int) {
	t.Helper()
	was := slices.Clone(l)
	got := call(l)
	first := slices.Clone(got)
	for i := range l {
		l[i] = 77
	}
	if !slices.Equal(got, first) {
		t.Errorf("of %v: %v, that shares memory with it", was, first)
	}
	copy(l, was)
	got = got[:cap(got)]
	for i := range got {
		got[i] = 78
	}
	if !slices.Equal(l, was) {
		t.Errorf("what is told of %v shares memory with it", was)
	}
}

// 11.1

func TestRight(t *testing.T) {
	for _, l := range [][]int{nil, {}, {1}, {api.MaxId}, {1, 2, 3}, {3, 1, 2}, {api.MaxId, 1, api.MaxId - 1}} {
		if !order.Right(l) {
			t.Errorf("%v is not right", l)
		}
	}
	for _, l := range [][]int{{0}, {-1}, {api.MaxId + 1}, {1, 0}, {0, 1}, {1, 2, -3}, {1, 1}, {1, 2, 1}, {2, 1, 1}, {1, 2, 3, 4, 2}, {math.MinInt}, {math.MaxInt}, {1<<32 + 1}} {
		if order.Right(l) {
			t.Errorf("%v is right", l)
		}
	}
}

func TestRightOfMany(t *testing.T) {
	all := make([]int, api.MaxId)
	for i := range all {
		all[i] = api.MaxId - i
	}
	if !order.Right(all) {
		t.Errorf("all ids are not right")
	}
	if order.Right(append(all, 7)) {
		t.Errorf("all ids, and one of them again, are right")
	}
}

func rightBy(l []int) bool {
	for i, tx := range l {
		if tx <= 0 || tx >= 1048576 || slices.Contains(l[:i], tx) {
			return false
		}
	}
	return true
}

func TestRightOfAny(t *testing.T) {
	right := 0
	eachList(t, 111, func(l []int, from *rand.Rand) {
		want := rightBy(l)
		if want {
			right++
		}
		unchanged(t, func() {
			if got := order.Right(l); got != want {
				t.Errorf("Right of %v: %v", l, got)
			}
		}, l)
	})
	if right < 500 {
		t.Errorf("%d lists are right: too few", right)
	}
}

// permBy takes the numbers of a out of b, one by one.
func permBy(a, b []int) bool {
	rest := slices.Clone(b)
	for _, x := range a {
		at := slices.Index(rest, x)
		if at < 0 {
			return false
		}
		rest = slices.Delete(rest, at, at+1)
	}
	return len(rest) == 0
}

func wantAlike(t *testing.T, a, b []int) {
	t.Helper()
	same := len(a) == len(b)
	for i := 0; same && i < len(a); i++ {
		same = a[i] == b[i]
	}
	unchanged(t, func() {
		if got := order.Same(a, b); got != same {
			t.Errorf("Same of %v and %v: %v", a, b, got)
		}
		if got, want := order.Perm(a, b), permBy(a, b); got != want {
			t.Errorf("Perm of %v and %v: %v", a, b, got)
		}
	}, a, b)
}

func TestSameAndPerm(t *testing.T) {
	for _, a := range odd {
		for _, b := range odd {
			wantAlike(t, a, b)
		}
	}
	eachList(t, 112, func(l []int, from *rand.Rand) {
		wantAlike(t, l, slices.Clone(l))
		other := slices.Clone(l)
		from.Shuffle(len(other), func(i, k int) { other[i], other[k] = other[k], other[i] })
		wantAlike(t, l, other)
		if len(other) > 0 {
			other[from.Intn(len(other))] = from.Intn(9) - 1
			wantAlike(t, l, other)
			wantAlike(t, l, other[1:])
		}
	})
}

func TestPermByHand(t *testing.T) {
	if !order.Perm([]int{1, 2, 1}, []int{1, 1, 2}) || order.Perm([]int{1, 2, 2}, []int{1, 1, 2}) || order.Perm([]int{1}, []int{1, 1}) || order.Perm([]int{1, 1}, []int{1}) || !order.Perm(nil, []int{}) || order.Perm(nil, []int{0}) {
		t.Errorf("Perm does not count")
	}
}

// 11.2

func wantBeside(t *testing.T, l []int, tx int) {
	t.Helper()
	next, prev, isNext, isPrev := 0, 0, false, false
	for i := len(l) - 1; i >= 0; i-- {
		if l[i] != tx {
			continue
		}
		next, prev, isNext, isPrev = 0, 0, i+1 < len(l), i > 0
		if isNext {
			next = l[i+1]
		}
		if isPrev {
			prev = l[i-1]
		}
	}
	if tx == 0 {
		next, isNext = 0, len(l) > 0
		if isNext {
			next = l[0]
		}
	}
	unchanged(t, func() {
		if got, is := order.Next(l, tx); got != next || is != isNext {
			t.Errorf("Next of %v, %d: %d, %v; want %d, %v", l, tx, got, is, next, isNext)
		}
		if got, is := order.Prev(l, tx); got != prev || is != isPrev {
			t.Errorf("Prev of %v, %d: %d, %v; want %d, %v", l, tx, got, is, prev, isPrev)
		}
	}, l)
}

func TestNextByHand(t *testing.T) {
	want := []struct {
		l        []int
		tx, next int
		is       bool
	}{
		{nil, 0, 0, false}, {nil, 1, 0, false}, {[]int{4}, 0, 4, true}, {[]int{4}, 4, 0, false}, {[]int{4}, 5, 0, false},
		{[]int{4, 6, 5}, 0, 4, true}, {[]int{4, 6, 5}, 4, 6, true}, {[]int{4, 6, 5}, 6, 5, true}, {[]int{4, 6, 5}, 5, 0, false}, {[]int{4, 6, 5}, 7, 0, false}, {[]int{4, 6, 5}, -1, 0, false},
		{[]int{4, 6, 4, 5}, 4, 6, true}, {[]int{4, 4}, 4, 4, true}, {[]int{6, 0, 5}, 0, 6, true}, {[]int{0, 5}, 0, 0, true}, {[]int{-1, 5}, -1, 5, true},
	}
	for _, w := range want {
		if next, is := order.Next(w.l, w.tx); next != w.next || is != w.is {
			t.Errorf("Next of %v, %d: %d, %v", w.l, w.tx, next, is)
		}
	}
}

func TestPrevByHand(t *testing.T) {
	want := []struct {
		l        []int
		tx, prev int
		is       bool
	}{
		{nil, 0, 0, false}, {nil, 1, 0, false}, {[]int{4}, 4, 0, false}, {[]int{4}, 0, 0, false}, {[]int{4}, 5, 0, false},
		{[]int{4, 6, 5}, 4, 0, false}, {[]int{4, 6, 5}, 6, 4, true}, {[]int{4, 6, 5}, 5, 6, true}, {[]int{4, 6, 5}, 7, 0, false}, {[]int{4, 6, 5}, 0, 0, false}, {[]int{4, 6, 5}, -1, 0, false},
		{[]int{6, 4, 5, 4}, 4, 6, true}, {[]int{4, 5, 4}, 4, 0, false}, {[]int{6, 0, 5}, 0, 6, true}, {[]int{0, 5}, 5, 0, true},
	}
	for _, w := range want {
		if prev, is := order.Prev(w.l, w.tx); prev != w.prev || is != w.is {
			t.Errorf("Prev of %v, %d: %d, %v", w.l, w.tx, prev, is)
		}
	}
}

func TestNextAndPrevOfAny(t *testing.T) {
	eachList(t, 113, func(l []int, from *rand.Rand) {
		for _, tx := range few {
			wantBeside(t, l, tx)
		}
	})
}

// 11.3

func TestWithAndWithoutByHand(t *testing.T) {
	want := []struct {
		l             []int
		tx            int
		with, without []int
	}{
		{nil, 4, []int{4}, nil}, {[]int{4}, 4, []int{4}, nil}, {[]int{5}, 4, []int{5, 4}, []int{5}},
		{[]int{4, 6, 5}, 4, []int{4, 6, 5}, []int{6, 5}}, {[]int{4, 6, 5}, 6, []int{4, 6, 5}, []int{4, 5}}, {[]int{4, 6, 5}, 7, []int{4, 6, 5, 7}, []int{4, 6, 5}},
		{[]int{4, 6, 4, 5, 4}, 4, []int{4, 6, 4, 5, 4}, []int{6, 5}}, {[]int{4, 4}, 4, []int{4, 4}, nil}, {[]int{4, 4}, 5, []int{4, 4, 5}, []int{4, 4}},
		{[]int{4}, 0, []int{4, 0}, []int{4}}, {[]int{4}, -1, []int{4, -1}, []int{4}}, {[]int{0, 4, 0}, 0, []int{0, 4, 0}, []int{4}},
	}
	for _, w := range want {
		unchanged(t, func() {
			if got := order.With(w.l, w.tx); !slices.Equal(got, w.with) {
				t.Errorf("With of %v, %d: %v", w.l, w.tx, got)
			}
			if got := order.Without(w.l, w.tx); !slices.Equal(got, w.without) {
				t.Errorf("Without of %v, %d: %v", w.l, w.tx, got)
			}
		}, w.l)
	}
}

func TestWithAndWithoutOfAny(t *testing.T) {
	eachList(t, 114, func(l []int, from *rand.Rand) {
		for _, tx := range few {
			with := slices.Concat(l, []int{tx})[:len(l)]
			if !slices.Contains(l, tx) {
				with = with[:len(l)+1]
			}
			var without []int
			for _, x := range l {
				if x != tx {
					without = append(without, x)
				}
			}
			unchanged(t, func() {
				if got := order.With(l, tx); !slices.Equal(got, with) {
					t.Errorf("With of %v, %d: %v", l, tx, got)
				}
				if got := order.Without(l, tx); !slices.Equal(got, without) {
					t.Errorf("Without of %v, %d: %v", l, tx, got)
				}
			}, l)
		}
	})
}

func TestMoveByHand(t *testing.T) {
	l := []int{4, 6, 5, 7}
	want := []struct {
		tx, place int
		moved     []int
		why       api.Errno
	}{
		{4, 0, l, 0}, {4, 1, []int{6, 4, 5, 7}, 0}, {4, 2, []int{6, 5, 4, 7}, 0}, {4, 3, []int{6, 5, 7, 4}, 0},
		{7, 0, []int{7, 4, 6, 5}, 0}, {7, 1, []int{4, 7, 6, 5}, 0}, {7, 2, []int{4, 6, 7, 5}, 0}, {7, 3, l, 0},
		{5, 0, []int{5, 4, 6, 7}, 0}, {5, 1, []int{4, 5, 6, 7}, 0}, {5, 2, l, 0}, {5, 3, []int{4, 6, 7, 5}, 0},
		{5, 4, nil, api.ErrRange}, {5, -1, nil, api.ErrRange}, {5, math.MaxInt, nil, api.ErrRange}, {5, math.MinInt, nil, api.ErrRange},
		{8, 0, nil, api.ErrNone}, {8, 4, nil, api.ErrNone}, {8, -1, nil, api.ErrNone}, {0, 0, nil, api.ErrNone}, {-1, 0, nil, api.ErrNone},
	}
	for _, w := range want {
		unchanged(t, func() {
			if got, why := order.Move(l, w.tx, w.place); why != w.why || !slices.Equal(got, w.moved) {
				t.Errorf("Move of %d to %d: %v, %d; want %v, %d", w.tx, w.place, got, why, w.moved, w.why)
			}
		}, l)
	}
	if got, why := order.Move(nil, 1, 0); why != api.ErrNone || len(got) != 0 {
		t.Errorf("Move in nothing: %v, %d", got, why)
	}
	if got, why := order.Move([]int{6, 4, 5, 4}, 4, 3); why != api.OK || !slices.Equal(got, []int{6, 5, 4, 4}) {
		t.Errorf("Move of what is there twice: %v, %d", got, why)
	}
}

// moveBy takes tx out, and puts it in.
func moveBy(l []int, tx, place int) ([]int, api.Errno) {
	was := slices.Index(l, tx)
	if was < 0 {
		return nil, api.ErrNone
	}
	if place < 0 || place > len(l)-1 {
		return nil, api.ErrRange
	}
	rest := slices.Delete(slices.Clone(l), was, was+1)
	return slices.Insert(rest, place, tx), api.OK
}

func TestMoveOfAny(t *testing.T) {
	eachList(t, 115, func(l []int, from *rand.Rand) {
		for _, tx := range few {
			for place := -2; place <= len(l)+1; place++ {
				want, wantWhy := moveBy(l, tx, place)
				unchanged(t, func() {
					if got, why := order.Move(l, tx, place); why != wantWhy || !slices.Equal(got, want) {
						t.Errorf("Move of %v, %d to %d: %v, %d; want %v, %d", l, tx, place, got, why, want, wantWhy)
					}
				}, l)
			}
		}
	})
}

func TestAnswersAreNewMemory(t *testing.T) {
	eachList(t, 116, func(l []int, from *rand.Rand) {
		tx := 1 + from.Intn(5)
		wantApart(t, l, func(l []int) []int { return order.With(l, tx) })
		wantApart(t, l, func(l []int) []int { return order.Without(l, tx) })
		for place := range l {
			wantApart(t, l, func(l []int) []int {
				moved, _ := order.Move(l, tx, place)
				return moved
			})
		}
	})
	room := make([]int, 3, 10)
	order.With(room, 7)
	if room[:10][3] != 0 {
		t.Errorf("With writes behind what it was handed")
	}
}

// 11.4

// stepsBy makes each move, and looks again.
func stepsBy(from, to []int) []api.Pair {
	var steps []api.Pair
	now := slices.Clone(from)
	for place, tx := range to {
		if now[place] != tx {
			steps = append(steps, api.Pair{Key: tx, Val: place})
			now, _ = moveBy(now, tx, place)
		}
	}
	return steps
}

func wantSteps(t *testing.T, from, to []int, want []api.Pair, wantWhy api.Errno) {
	t.Helper()
	unchanged(t, func() {
		if got, why := order.Steps(from, to); why != wantWhy || !slices.Equal(got, want) {
			t.Errorf("Steps from %v to %v: %v, %d; want %v, %d", from, to, got, why, want, wantWhy)
		}
	}, from, to)
}

func TestStepsByHand(t *testing.T) {
	wantSteps(t, nil, nil, nil, api.OK)
	wantSteps(t, []int{1}, []int{1}, nil, api.OK)
	wantSteps(t, []int{1, 2, 3}, []int{1, 2, 3}, nil, api.OK)
	wantSteps(t, []int{1, 2, 3}, []int{3, 1, 2}, []api.Pair{{Key: 3, Val: 0}}, api.OK)
	wantSteps(t, []int{3, 1, 2}, []int{1, 2, 3}, []api.Pair{{Key: 1, Val: 0}, {Key: 2, Val: 1}}, api.OK)
	wantSteps(t, []int{1, 2, 3}, []int{3, 2, 1}, []api.Pair{{Key: 3, Val: 0}, {Key: 2, Val: 1}}, api.OK)
	wantSteps(t, []int{9, 4, 7, 1}, []int{9, 1, 4, 7}, []api.Pair{{Key: 1, Val: 1}}, api.OK)
	wantSteps(t, []int{2, 1, 4, 3}, []int{1, 2, 3, 4}, []api.Pair{{Key: 1, Val: 0}, {Key: 3, Val: 2}}, api.OK)
}

func TestStepsOfWrongOrders(t *testing.T) {
	wrong := [][2][]int{
		{{1}, nil}, {nil, {1}}, {{1}, {2}}, {{1, 2}, {1}}, {{1}, {1, 2}}, {{1, 2}, {1, 3}}, {{1, 1}, {1, 1}}, {{1, 2, 2}, {1, 2, 2}}, {{1, 2, 2}, {1, 1, 2}},
		{{0}, {0}}, {{-1, 1}, {1, -1}}, {{api.MaxId + 1}, {api.MaxId + 1}}, {{1, 0}, {1, 0}}, {{1, 2}, {2, 2}}, {{2, 2}, {1, 2}}, {{1, 0}, {1, 2}}, {{1, 2}, {1, 0}},
	}
	for _, w := range wrong {
		wantSteps(t, w[0], w[1], nil, api.ErrOrder)
	}
	eachList(t, 117, func(l []int, from *rand.Rand) {
		if !rightBy(l) {
			wantSteps(t, l, l, nil, api.ErrOrder)
		}
	})
}

// eachPair goes through many pairs of right orders of the same ids.
func eachPair(t *testing.T, seed int64, look func(a, b []int)) {
	t.Helper()
	from := rand.New(rand.NewSource(seed))
	for i := range 3000 {
		a := from.Perm(20)[:from.Intn(12)]
		for k := range a {
			a[k]++
		}
		b := slices.Clone(a)
		// Few swaps leave long runs as they are; a shuffle leaves hardly one.
		for range from.Intn(3) {
			if len(b) > 0 {
				x, y := from.Intn(len(b)), from.Intn(len(b))
				b[x], b[y] = b[y], b[x]
			}
		}
		if i%2 == 0 {
			from.Shuffle(len(b), func(x, y int) { b[x], b[y] = b[y], b[x] })
		}
		look(a, b)
		if t.Failed() {
			return
		}
	}
}

func TestStepsOfAny(t *testing.T) {
	eachPair(t, 118, func(a, b []int) { wantSteps(t, a, b, stepsBy(a, b), api.OK) })
}

func TestStepsOfMany(t *testing.T) {
	const size = 300000
	from, to := make([]int, size), make([]int, size)
	for i := range size {
		from[i], to[i] = i+1, size-i
	}
	steps, why := order.Steps(from, to)
	if why != api.OK || len(steps) != size-1 || steps[0] != (api.Pair{Key: size}) || steps[size-2] != (api.Pair{Key: 2, Val: size - 2}) {
		t.Errorf("of many turned round: %d steps, %d", len(steps), why)
	}
}

// 11.5

func TestByMoves(t *testing.T) {
	eachPair(t, 119, func(a, b []int) {
		steps, why := order.Steps(a, b)
		if why != api.OK {
			t.Fatalf("Steps from %v to %v: %d", a, b, why)
		}
		now := a
		var moved []int
		for _, s := range steps {
			if slices.Contains(moved, s.Key) {
				t.Errorf("from %v to %v: %d is moved twice", a, b, s.Key)
			}
			moved = append(moved, s.Key)
			if now, why = order.Move(now, s.Key, s.Val); why != api.OK {
				t.Fatalf("from %v to %v: Move of %v: %d", a, b, s, why)
			}
		}
		if !order.Same(now, b) {
			t.Errorf("from %v to %v: the steps make %v", a, b, now)
		}
		if (len(steps) == 0) != order.Same(a, b) {
			t.Errorf("from %v to %v: %d steps", a, b, len(steps))
		}
	})
}
