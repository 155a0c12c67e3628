package slots_test

import (
	"math"
	"math/rand"
	"slices"
	"testing"

	"tenter/api"
	"tenter/slots"
)

// What the chapter says, once more, by going through all slots.

// plain has of each slot whose it is; 0, if it is free.
type plain []int

func (p plain) slot(id int) (int, bool) {
	if id == 0 {
		return 0, false
	}
	at := slices.Index(p, id)
	return max(at, 0), at >= 0
}

func (p plain) take(id int) (int, api.Errno) {
	_, has := p.slot(id)
	free := slices.Index(p, 0)
	switch {
	case id < 1 || id > 1048575:
		return 0, api.ErrRange
	case has:
		return 0, api.ErrThere
	case free < 0:
		return 0, api.ErrFull
	}
	p[free] = id
	return free, api.OK
}

func (p plain) free(id int) api.Errno {
	at, has := p.slot(id)
	if !has {
		return api.ErrNone
	}
	p[at] = 0
	return api.OK
}

func (p plain) list() []api.Pair {
	var l []api.Pair
	for slot, id := range p {
		if id != 0 {
			l = append(l, api.Pair{Key: slot, Val: id})
		}
	}
	return l
}

// oddIds are no ids, or at the ends of those; some would be one, or a slot, if they were cut.
func oddIds() []int {
	return []int{math.MinInt, math.MinInt32, -1048575, -1, 0, 1048576, math.MaxInt32, 1 << 32, 1<<32 + 1, 1<<32 + 7, -1<<32 + 7, 1<<62 + 7, math.MaxInt}
}

// want looks by all calls at slots that are meant to be like those.
func want(t *testing.T, s *slots.Slots, p plain) {
	t.Helper()
	l := p.list()
	if got := s.List(); !slices.Equal(got, l) {
		t.Fatalf("List: %v, want %v", got, l)
	}
	if s.Len() != len(l) || s.Room() != len(p)-len(l) {
		t.Fatalf("Len %d, Room %d; %d of %d are taken", s.Len(), s.Room(), len(l), len(p))
	}
	for slot := range p {
		if id, is := s.Id(slot); id != p[slot] || is != (p[slot] != 0) {
			t.Fatalf("Id of %d: %d, %v, want %d", slot, id, is, p[slot])
		}
	}
	for _, slot := range append(oddIds(), len(p), len(p)+1, 4095, 4096) {
		if slot >= 0 && slot < len(p) {
			continue
		}
		if id, is := s.Id(slot); id != 0 || is {
			t.Fatalf("Id of %d, which is no slot: %d, %v", slot, id, is)
		}
	}
	for _, id := range append(oddIds(), 1, 2, 3, 5, 7, 8, 9, 1048574, 1048575) {
		wantSlot(t, s, p, id)
	}
	for _, x := range l {
		wantSlot(t, s, p, x.Val)
	}
}

func wantSlot(t *testing.T, s *slots.Slots, p plain, id int) {
	t.Helper()
	at, has := p.slot(id)
	if got, is := s.Slot(id); got != at || is != has {
		t.Fatalf("Slot of %d: %d, %v, want %d, %v", id, got, is, at, has)
	}
}

// wantTake takes of both, and looks at what is told.
func wantTake(t *testing.T, s *slots.Slots, p plain, id int) api.Errno {
	t.Helper()
	slot, why := p.take(id)
	if got, told := s.Take(id); got != slot || told != why {
		t.Fatalf("Take of %d: %d, %d, want %d, %d", id, got, told, slot, why)
	}
	return why
}

// wantFree frees of both, and looks at what is told.
func wantFree(t *testing.T, s *slots.Slots, p plain, id int) api.Errno {
	t.Helper()
	why := p.free(id)
	if told := s.Free(id); told != why {
		t.Fatalf("Free of %d: %d, want %d", id, told, why)
	}
	return why
}

// taken makes slots of a room, and a plain one like them, of which those ids have the first ones.
func taken(t *testing.T, room int, ids ...int) (*slots.Slots, plain) {
	t.Helper()
	s, p := slots.New(room), make(plain, room)
	for _, id := range ids {
		if why := wantTake(t, s, p, id); why != api.OK {
			t.Fatalf("Take of %d: %d", id, why)
		}
	}
	return s, p
}

// The example of the chapter.
func TestExample(t *testing.T) {
	s := slots.New(9)
	for want, id := range []int{7, 8, 9} {
		if slot, why := s.Take(id); slot != want || why != api.OK {
			t.Fatalf("Take of %d: %d, %d", id, slot, why)
		}
	}
	if why := s.Free(8); why != api.OK {
		t.Fatalf("Free: %d", why)
	}
	if slot, why := s.Take(5); slot != 1 || why != api.OK {
		t.Errorf("Take of 5: %d, %d", slot, why)
	}
}

// 21.1

func TestNew(t *testing.T) {
	for room, most := range map[int]int{
		math.MinInt: 0, -1: 0, 0: 0, 1: 1, 2: 2, 64: 64, 65: 65, 4095: 4095, 4096: 4096, 4097: 4096, 1 << 20: 4096, 1<<32 + 1: 4096, math.MaxInt: 4096,
	} {
		s := slots.New(room)
		if s == nil {
			t.Fatalf("New of %d is nil", room)
		}
		want(t, s, make(plain, most))
	}
}

func TestTakeTheLeastFreeOne(t *testing.T) {
	s, p := taken(t, 5, 30, 10, 20)
	want(t, s, p)
	wantFree(t, s, p, 30)
	wantFree(t, s, p, 20)
	want(t, s, p)
	for _, id := range []int{40, 30, 50, 20} {
		wantTake(t, s, p, id)
		want(t, s, p)
	}
	if l := s.List(); !slices.Equal(l, []api.Pair{{Key: 0, Val: 40}, {Key: 1, Val: 10}, {Key: 2, Val: 30}, {Key: 3, Val: 50}, {Key: 4, Val: 20}}) {
		t.Errorf("List: %v", l)
	}
}

func TestTakeAtTheEnds(t *testing.T) {
	s, p := taken(t, 3, 1048575, 1)
	want(t, s, p)
	for _, id := range oddIds() {
		if why := wantTake(t, s, p, id); why != api.ErrRange {
			t.Errorf("Take of %d: %d", id, why)
		}
		if why := wantFree(t, s, p, id); why != api.ErrNone {
			t.Errorf("Free of %d: %d", id, why)
		}
	}
	want(t, s, p)
}

// Where several errors apply, it is the first one.
func TestTakeTellsTheFirstError(t *testing.T) {
	s, p := taken(t, 2, 7, 8)
	for _, l := range []struct {
		id   int
		want api.Errno
	}{
		{0, api.ErrRange}, {1048576, api.ErrRange}, {1<<32 + 7, api.ErrRange}, {7, api.ErrThere}, {8, api.ErrThere}, {9, api.ErrFull}, {1048575, api.ErrFull},
	} {
		if slot, why := s.Take(l.id); slot != 0 || why != l.want {
			t.Errorf("Take of %d: %d, %d, want %d", l.id, slot, why, l.want)
		}
	}
	want(t, s, p)
	none := slots.New(0)
	if slot, why := none.Take(7); slot != 0 || why != api.ErrFull {
		t.Errorf("Take of room 0: %d, %d", slot, why)
	}
}

func TestFree(t *testing.T) {
	s, p := taken(t, 4, 7, 8)
	for _, l := range []struct {
		id   int
		want api.Errno
	}{
		{9, api.ErrNone}, {0, api.ErrNone}, {1, api.ErrNone}, {8, api.OK}, {8, api.ErrNone}, {7, api.OK}, {7, api.ErrNone},
	} {
		if why := wantFree(t, s, p, l.id); why != l.want {
			t.Errorf("Free of %d: %d, want %d", l.id, why, l.want)
		}
		want(t, s, p)
	}
}

// 21.3

func TestNil(t *testing.T) {
	var s *slots.Slots
	want(t, s, plain{})
	for _, id := range append(oddIds(), 1, 7, 1048575) {
		wantTake(t, s, plain{}, id)
		wantFree(t, s, plain{}, id)
	}
	want(t, s, plain{})
}

// All of 21.1 and 21.2

func TestOfAny(t *testing.T) {
	from := rand.New(rand.NewSource(211))
	told := map[api.Errno]int{}
	for range 60 {
		room := from.Intn(9)
		s, p := slots.New(room), make(plain, room)
		for range 150 {
			id := 1 + from.Intn(12)
			if from.Intn(30) == 0 {
				id = oddIds()[from.Intn(len(oddIds()))]
			}
			if from.Intn(2) == 0 {
				told[wantTake(t, s, p, id)]++
			} else {
				told[wantFree(t, s, p, id)]++
			}
			want(t, s, p)
		}
	}
	for _, why := range []api.Errno{api.OK, api.ErrRange, api.ErrThere, api.ErrFull, api.ErrNone} {
		if told[why] < 50 {
			t.Errorf("the error %d is too rare: %v", why, told)
		}
	}
}

// 21.4

func TestDense(t *testing.T) {
	from := rand.New(rand.NewSource(214))
	s, p := slots.New(200), make(plain, 200)
	for n, at := range from.Perm(200) {
		id := 1048575 - 5000*at
		if slot, why := s.Take(id); slot != n || why != api.OK {
			t.Fatalf("Take of %d, as the number %d: %d, %d", id, n, slot, why)
		}
		p[n] = id
	}
	want(t, s, p)
	// When some were freed, all below one that is taken then are taken.
	for range 1000 {
		if s.Len() > 100 && from.Intn(2) == 0 {
			s.Free(s.List()[from.Intn(s.Len())].Val)
			continue
		}
		slot, why := s.Take(1 + from.Intn(1048575))
		if why != api.OK {
			continue
		}
		for below := range slot {
			if _, is := s.Id(below); !is {
				t.Fatalf("slot %d is taken, and %d is free", slot, below)
			}
		}
	}
}

func TestOfMany(t *testing.T) {
	s, p := slots.New(4096), make(plain, 4096)
	for slot := range p {
		p[slot] = 1048575 - 255*slot
		if got, why := s.Take(p[slot]); got != slot || why != api.OK {
			t.Fatalf("Take of %d: %d, %d, want %d", p[slot], got, why, slot)
		}
	}
	want(t, s, p)
	if slot, why := s.Take(2); slot != 0 || why != api.ErrFull {
		t.Fatalf("Take when all are taken: %d, %d", slot, why)
	}
	for slot := 4095; slot >= 0; slot -= 2 {
		if why := wantFree(t, s, p, p[slot]); why != api.OK {
			t.Fatalf("Free of the slot %d: %d", slot, why)
		}
	}
	want(t, s, p)
	for slot := 1; slot < 4096; slot += 2 {
		id := 1 + slot
		if got, why := s.Take(id); got != slot || why != api.OK {
			t.Fatalf("Take of %d: %d, %d, want %d", id, got, why, slot)
		}
		p[slot] = id
	}
	want(t, s, p)
}

// Memory

func TestAnswersAreNewMemory(t *testing.T) {
	s, p := taken(t, 4, 7, 8, 9)
	for i, l := 0, s.List(); i < len(l); i++ {
		l[i] = api.Pair{Key: 3, Val: 3}
	}
	want(t, s, p)
	// Slots are apart, one from the other.
	other, q := taken(t, 4, 9, 8)
	other.Free(9)
	q.free(9)
	want(t, s, p)
	want(t, other, q)
}
