package store_test

import (
	"maps"
	"math"
	"math/rand"
	"slices"
	"testing"

	"tenter/api"
	"tenter/delta"
	"tenter/history"
	"tenter/sample"
	"tenter/store"
	"tenter/txn"
)

// plain is what the chapter says, once more: whole histories, each by itself.
type plain struct {
	now  api.History
	kept map[int]api.History
	next int
}

func newPlain() *plain { return &plain{kept: map[int]api.History{}} }

func sizeBy(h api.History) int {
	n := len(h.Txs) + len(h.Orders)
	for _, o := range h.Orders {
		n += len(o.Txs)
	}
	return n
}

func (p *plain) held() int {
	n := sizeBy(p.now)
	for _, h := range p.kept {
		n += sizeBy(h)
	}
	return n
}

// begin makes h the history, if that would not hold too much.
func (p *plain) begin(h api.History) api.Errno {
	if p.held()-sizeBy(p.now)+sizeBy(h) > 10000 {
		return api.ErrFull
	}
	p.now = sample.Copy(h)
	return api.OK
}

func (p *plain) do(d api.Delta) api.Errno {
	h, why := delta.Apply(p.now, d)
	if why != api.OK {
		return why
	}
	return p.begin(h)
}

func (p *plain) keep() (int, api.Errno) {
	if p.held()+sizeBy(p.now) > 10000 {
		return 0, api.ErrFull
	}
	p.kept[p.next] = sample.Copy(p.now)
	p.next++
	return p.next - 1, api.OK
}

func (p *plain) back(n int) api.Errno {
	h, is := p.kept[n]
	if !is {
		return api.ErrNone
	}
	return p.begin(h)
}

func (p *plain) drop(n int) api.Errno {
	if _, is := p.kept[n]; !is {
		return api.ErrNone
	}
	delete(p.kept, n)
	return api.OK
}

// short tells a history's text, or the beginning of it.
func short(h api.History) string {
	text := sample.Text(h)
	return text[:min(len(text), 500)]
}

// wantHistory looks by all calls that tell something at a store that is meant to have this history.
func wantHistory(t *testing.T, s *store.Store, h api.History, held int) {
	t.Helper()
	if got := s.History(); !history.Same(got, h) {
		t.Fatalf("History: %s, want %s", short(got), short(h))
	}
	if got := s.Held(); got != held {
		t.Fatalf("of %s: Held: %d, want %d", short(h), got, held)
	}
	for _, n := range []int{math.MinInt, -1, 0, 1, 2, 3, 4, 5, 6, 7, 8, 9, api.MaxId, api.MaxId + 1, 1<<32 + 1, math.MaxInt} {
		wantAt(t, s, h, n)
	}
}

// wantAt looks at what a store tells of an id, and of a key, of the same number.
func wantAt(t *testing.T, s *store.Store, h api.History, n int) {
	t.Helper()
	want, wantIs := history.Find(h, n)
	if got, is := s.Tx(n); is != wantIs || !txn.Same(got, want) {
		t.Fatalf("of %s: Tx of %d: %s, %v", short(h), n, txn.Text(got), is)
	}
	if got := s.Order(n); !slices.Equal(got, history.Order(h, n)) {
		t.Fatalf("of %s: Order of %d: %v", short(h), n, got)
	}
}

// both is a store, and what it is meant to be.
type both struct {
	t *testing.T
	s *store.Store
	p *plain
}

func newBoth(t *testing.T) both { return both{t, store.New(), newPlain()} }

func (b both) look() {
	b.t.Helper()
	wantHistory(b.t, b.s, b.p.now, b.p.held())
}

func (b both) do(d api.Delta) api.Errno {
	b.t.Helper()
	was := sample.CopyDelta(d)
	got, want := b.s.Do(d), b.p.do(d)
	if got != want || !delta.Same(d, was) {
		b.t.Fatalf("of %s: Do of %.300s: %d, want %d", short(b.p.now), sample.DeltaText(d), got, want)
	}
	return got
}

// to makes h the history.
func (b both) to(h api.History) {
	b.t.Helper()
	d, why := delta.Of(b.p.now, h)
	if why != api.OK || b.do(d) != api.OK {
		b.t.Fatalf("%s can't come to be: %d", short(h), why)
	}
}

func (b both) keep() (int, api.Errno) {
	b.t.Helper()
	n, why := b.s.Keep()
	if wantN, wantWhy := b.p.keep(); n != wantN || why != wantWhy {
		b.t.Fatalf("of %s: Keep: %d, %d; want %d, %d", short(b.p.now), n, why, wantN, wantWhy)
	}
	return n, why
}

func (b both) back(n int) api.Errno {
	b.t.Helper()
	got, want := b.s.Back(n), b.p.back(n)
	if got != want {
		b.t.Fatalf("of %s: Back to %d: %d, want %d", short(b.p.now), n, got, want)
	}
	return got
}

func (b both) drop(n int) api.Errno {
	b.t.Helper()
	got, want := b.s.Drop(n), b.p.drop(n)
	if got != want {
		b.t.Fatalf("of %s: Drop of %d: %d, want %d", short(b.p.now), n, got, want)
	}
	return got
}

// wantWhy looks at what a call told, and at all that is there behind it.
func (b both) wantWhy(got, want api.Errno) {
	b.t.Helper()
	if got != want {
		b.t.Fatalf("of %s: %d, want %d", short(b.p.now), got, want)
	}
	b.look()
}

func (b both) wantKeep(n int, why api.Errno) {
	b.t.Helper()
	gotN, gotWhy := b.keep()
	if gotN != n {
		b.t.Fatalf("Keep: %d, want %d", gotN, n)
	}
	b.wantWhy(gotWhy, why)
}

// oddNumbers are no snapshots' numbers.
func oddNumbers() []int { return []int{math.MinInt, -1, 1 << 20, 1 << 32, math.MaxInt} }

// ofSize tells a history of txs transactions, of which the first ones have a key of their own each, so that it has the size.
func ofSize(txs, size int) api.History {
	var h api.History
	for id := 1; id <= txs; id++ {
		t := api.Tx{Id: id, Done: true}
		if txs+2*id <= size {
			t.Ops = []api.Op{{Key: id}}
			h.Orders = append(h.Orders, api.Order{Key: id, Txs: []int{id}})
		}
		h.Txs = append(h.Txs, t)
	}
	return h
}

// The example of the chapter.
func TestExample(t *testing.T) {
	s := store.New()
	why := s.Do(sample.Delta("+1 c w5; +5: 1"))
	wantHistory(t, s, sample.History("1 c w5; 5: 1"), 3)
	n, whyKeep := s.Keep()
	wantHistory(t, s, sample.History("1 c w5; 5: 1"), 6)
	if why != api.OK || whyKeep != api.OK || n != 0 {
		t.Errorf("%d, %d, %d", why, n, whyKeep)
	}
}

// 15.1

func TestNewHasNothing(t *testing.T) {
	b := newBoth(t)
	b.look()
	for _, n := range append(oddNumbers(), 0, 1) {
		b.wantWhy(b.back(n), api.ErrNone)
		b.wantWhy(b.drop(n), api.ErrNone)
	}
	b.wantWhy(b.do(api.Delta{}), api.OK)
	other := newBoth(t)
	other.to(sample.History("1 c w5; 5: 1"))
	b.look()
}

func TestWhatIsTold(t *testing.T) {
	for _, text := range []string{
		"", "1 a", "1 c w5 r5@1.1; 5: 1", "1 c w5 w6; 2 a w5 r6@1.1; 3 c w6 w5 w5; 5: 3 1; 6: 1 3", "2 c w2 w9; 9 c w9 w2 r2@0; 2: 9 2; 9: 2 9", "1048575 c w1048575; 1048575: 1048575",
	} {
		b := newBoth(t)
		b.to(sample.History(text))
		b.look()
		b.to(api.History{})
		b.look()
	}
}

// 15.2

func TestDo(t *testing.T) {
	b := newBoth(t)
	for _, text := range []string{
		"", "+1 c w5; +5: 1", "+2 c w5 r5@1.1; -5: 1; +5: 1 2", "-5: 1 2; +5: 2 1", "-1 c w5; +1 c w5; -5: 2 1; +5: 2 1", "-1 c w5; +1 c w5 w6; +6: 1", "-2 c w5 r5@1.1; +2 a w5; -5: 2 1; +5: 1",
		"-2 a w5", "-1 c w5 w6; -5: 1; -6: 1; +3 c w5; +4 a r5@3.1; +5: 3", "-3 c w5; -4 a r5@3.1; -5: 3",
	} {
		b.wantWhy(b.do(sample.Delta(text)), api.OK)
	}
	if len(b.p.now.Txs) != 0 {
		t.Errorf("%s is left", sample.Text(b.p.now))
	}
}

func TestDoOfWrong(t *testing.T) {
	b := newBoth(t)
	b.to(sample.History("1 c w5; 3 c w5 w6; 4 a r5@1.1; 5: 3 1; 6: 3"))
	b.keep()
	for text, why := range map[string]api.Errno{
		"-1 c w5; -1 c w5": api.ErrForm, "+9 a; +8 a": api.ErrForm, "-6: 3; -5: 3 1": api.ErrForm, "+7:; +7:": api.ErrForm, "-2 a; +9 a; +9 a": api.ErrForm,
		"-2 a": api.ErrState, "-1 a w5": api.ErrState, "+4 a r5@1.1": api.ErrState, "-5: 1 3; +5: 3 1": api.ErrState, "+6: 3": api.ErrState, "-7:": api.ErrState, "+0 a; +1 a": api.ErrState,
		"+0 a": api.ErrOrder, "+9 c w5": api.ErrOrder, "+9 a r5@2.1": api.ErrOrder, "-6: 3": api.ErrOrder, "-5: 3 1; +5: 3": api.ErrOrder, "-1 c w5; -5: 3 1; +5: 3": api.ErrOrder,
	} {
		b.wantWhy(b.do(sample.Delta(text)), why)
	}
	b.wantWhy(b.back(0), api.OK)
}

func TestDoOfTooMuch(t *testing.T) {
	b := newBoth(t)
	b.to(ofSize(4096, 10000))
	b.look()
	if b.s.Held() != 10000 {
		t.Fatalf("Held: %d", b.s.Held())
	}
	for text, why := range map[string]api.Errno{
		"-4000 c; +4000 c w4000; +4000: 4000":                      api.ErrFull,
		"-4000 c; +4000 c w1; -1: 1; +1: 1 4000":                   api.ErrFull,
		"-4000 c; +4000 c w4000":                                   api.ErrOrder,
		"+4000 c w4000; +4000: 4000":                               api.ErrState,
		"-4000 c; +4000 c w4000; +3: 3; +4000: 4000":               api.ErrState,
		"-4001 c; -4000 c; +4000 c w4000; +4000: 4000":             api.ErrForm,
		"-1 c w1; +1 c; -4000 c; +4000 c w1; -1: 1; +1: 4000":      api.OK,
		"-4001 c; -4002 c; -4003 c; +4001 c w2; -2: 2; +2: 2 4001": api.OK,
		"-4004 c; +4004 c w4004; +4004: 4004":                      api.ErrFull,
		"+4097 c":                                                  api.ErrOrder,
	} {
		alone := newBoth(t)
		alone.to(ofSize(4096, 10000))
		alone.wantWhy(alone.do(sample.Delta(text)), why)
	}
	b.wantWhy(b.do(sample.Delta("-4096 c")), api.OK)
	b.wantWhy(b.do(sample.Delta("-1 c w1; +1 c w1 w2; -2: 2; +2: 1 2")), api.OK)
	b.wantWhy(b.do(sample.Delta("+4096 c")), api.ErrFull)
}

func TestDoBesideSnapshots(t *testing.T) {
	b := newBoth(t)
	b.to(ofSize(3, 5))
	b.wantKeep(0, api.OK)
	b.to(ofSize(4000, 9994))
	b.wantWhy(b.do(sample.Delta("+4001 a")), api.OK)
	b.wantWhy(b.do(sample.Delta("+4002 a")), api.ErrFull)
	b.wantWhy(b.do(sample.Delta("-4001 a; +4002 a")), api.OK)
	b.wantWhy(b.drop(0), api.OK)
	b.wantWhy(b.do(sample.Delta("+4001 a; +4003 a; +4004 a; +4005 a; +4006 a")), api.OK)
	b.wantWhy(b.do(sample.Delta("+4007 a")), api.ErrFull)
}

// 15.3

func TestKeep(t *testing.T) {
	b := newBoth(t)
	b.wantKeep(0, api.OK)
	b.to(sample.History("1 c w5; 5: 1"))
	b.wantKeep(1, api.OK)
	b.wantKeep(2, api.OK)
	b.wantWhy(b.drop(2), api.OK)
	b.wantKeep(3, api.OK)
	for _, n := range []int{0, 1, 3} {
		b.wantWhy(b.drop(n), api.OK)
	}
	b.wantKeep(4, api.OK)
	for _, n := range append(oddNumbers(), 0, 1, 2, 3, 5) {
		b.wantWhy(b.back(n), api.ErrNone)
		b.wantWhy(b.drop(n), api.ErrNone)
	}
	b.to(api.History{})
	b.wantWhy(b.back(4), api.OK)
}

func TestKeepOfTooMuch(t *testing.T) {
	b := newBoth(t)
	b.to(ofSize(3000, 5000))
	b.wantKeep(0, api.OK)
	b.wantKeep(0, api.ErrFull)
	b.to(sample.History("1 c w5; 5: 1"))
	// What is refused takes no number.
	b.wantKeep(1, api.OK)
	b.wantWhy(b.drop(0), api.OK)
	b.wantWhy(b.drop(1), api.OK)
	b.to(ofSize(3001, 5001))
	b.wantKeep(0, api.ErrFull)
	b.to(ofSize(3000, 5000))
	b.wantKeep(2, api.OK)
}

func TestKeepTillItIsFull(t *testing.T) {
	b := newBoth(t)
	b.to(sample.History("1 c w5; 5: 1"))
	for n := range 3332 {
		if got, why := b.s.Keep(); got != n || why != api.OK {
			t.Fatalf("Keep: %d, %d, want %d", got, why, n)
		}
	}
	if n, why := b.s.Keep(); n != 0 || why != api.ErrFull || b.s.Held() != 9999 {
		t.Errorf("Keep: %d, %d; Held: %d", n, why, b.s.Held())
	}
	if b.s.Do(sample.Delta("+2 a")) != api.OK || b.s.Do(sample.Delta("+3 a")) != api.ErrFull || b.s.Held() != 10000 {
		t.Errorf("Held: %d", b.s.Held())
	}
	if b.s.Drop(1000) != api.OK || b.s.Held() != 9997 || b.s.Back(1000) != api.ErrNone || b.s.Back(3331) != api.OK {
		t.Errorf("Held: %d", b.s.Held())
	}
	if n, why := b.s.Keep(); n != 3332 || why != api.OK {
		t.Errorf("Keep: %d, %d", n, why)
	}
}

// TestKeepOfNothing keeps what has no size: of this there is never too much.
func TestKeepOfNothing(t *testing.T) {
	s := store.New()
	for n := range 20000 {
		if got, why := s.Keep(); got != n || why != api.OK {
			t.Fatalf("Keep: %d, %d, want %d", got, why, n)
		}
	}
	wantHistory(t, s, api.History{}, 0)
	if s.Do(sample.Delta("+1 a")) != api.OK || s.Back(19999) != api.OK || s.Back(20000) != api.ErrNone {
		t.Errorf("Held: %d", s.Held())
	}
	wantHistory(t, s, api.History{}, 0)
}

func TestBack(t *testing.T) {
	b := newBoth(t)
	texts := []string{"1 c w5; 5: 1", "1 c w5; 2 c w5; 5: 1 2", "1 c w5; 2 c w5; 5: 2 1", "1 a w5", "", "7 c w5 w5 w6 r5@7.2; 8 a r6@7.1; 5: 7; 6: 7"}
	for n, text := range texts {
		b.to(sample.History(text))
		b.wantKeep(n, api.OK)
	}
	for _, n := range []int{0, 5, 0, 0, 1, 2, 3, 4, 4, 1, 5, 3} {
		b.wantWhy(b.back(n), api.OK)
		if got := sample.Text(b.s.History()); got != texts[n] {
			t.Fatalf("behind Back to %d: %s", n, got)
		}
	}
	// What is done behind Back does nothing to the snapshot, nor does dropping it to the history.
	b.back(1)
	b.wantWhy(b.do(sample.Delta("-2 c w5; +2 c w5 w6; -5: 1 2; +5: 2 1; +6: 2")), api.OK)
	b.wantWhy(b.back(1), api.OK)
	b.wantWhy(b.drop(1), api.OK)
	b.wantWhy(b.back(1), api.ErrNone)
	b.wantWhy(b.do(sample.Delta("-1 c w5; -5: 1 2; +5: 2")), api.OK)
	b.wantWhy(b.back(0), api.OK)
}

func TestBackToTooMuch(t *testing.T) {
	b := newBoth(t)
	b.to(ofSize(3000, 4000))
	b.wantKeep(0, api.OK)
	b.to(ofSize(2000, 2001))
	b.wantKeep(1, api.OK)
	b.wantWhy(b.back(0), api.OK)
	b.wantWhy(b.back(1), api.OK)
	b.to(api.History{})
	b.to(ofSize(1, 1))
	b.wantKeep(2, api.OK)
	b.wantKeep(3, api.OK)
	// 4000, 2000, 1 and 1 are kept.
	b.to(ofSize(3000, 3998))
	b.wantWhy(b.back(0), api.ErrFull)
	b.wantWhy(b.back(1), api.OK)
	b.wantWhy(b.back(0), api.ErrFull)
	b.wantWhy(b.back(4), api.ErrNone)
	b.wantWhy(b.drop(2), api.OK)
	b.wantWhy(b.back(0), api.ErrFull)
	b.wantWhy(b.drop(3), api.OK)
	b.wantWhy(b.back(0), api.OK)
}

func TestDrop(t *testing.T) {
	b := newBoth(t)
	b.to(sample.History("1 c w5; 5: 1"))
	b.wantKeep(0, api.OK)
	b.wantKeep(1, api.OK)
	b.wantWhy(b.drop(0), api.OK)
	b.wantWhy(b.drop(0), api.ErrNone)
	b.wantWhy(b.back(0), api.ErrNone)
	b.to(sample.History("2 a"))
	b.wantWhy(b.back(1), api.OK)
	b.wantWhy(b.drop(1), api.OK)
	b.wantWhy(b.drop(1), api.ErrNone)
}

// 15.4

func TestOfNil(t *testing.T) {
	var s *store.Store
	for _, d := range []api.Delta{{}, sample.Delta("+1 c w5; +5: 1"), sample.Delta("-1 a"), sample.Delta("+1 a; +1 a"), sample.Delta("+0 a")} {
		if why := s.Do(d); why != api.ErrState {
			t.Errorf("Do of %s: %d", sample.DeltaText(d), why)
		}
	}
	for range 2 {
		if n, why := s.Keep(); n != 0 || why != api.ErrState {
			t.Errorf("Keep: %d, %d", n, why)
		}
	}
	for _, n := range append(oddNumbers(), 0, 1) {
		if s.Back(n) != api.ErrNone || s.Drop(n) != api.ErrNone {
			t.Errorf("Back to %d: %d; Drop: %d", n, s.Back(n), s.Drop(n))
		}
	}
	wantHistory(t, s, api.History{}, 0)
}

// 15.5

// step does one thing that is drawn; the numbers of snapshots are those that were told, or the next one.
func (b both) step(from *rand.Rand) api.Errno {
	b.t.Helper()
	switch from.Intn(10) {
	case 0:
		_, why := b.keep()
		return why
	case 1:
		return b.drop(from.Intn(b.p.next + 1))
	case 2:
		return b.back(from.Intn(b.p.next + 1))
	case 3:
		next := sample.DrawHistory(from.Intn)
		d, _ := delta.Of(b.p.now, next)
		return b.do(d)
	}
	d, _ := delta.Of(b.p.now, sample.DrawEdit(b.p.now, from.Intn))
	if from.Intn(3) == 0 {
		d = sample.DrawOther(d, from.Intn)
	}
	return b.do(d)
}

// wantSnapshots looks at all that was kept.
func (b both) wantSnapshots() {
	b.t.Helper()
	for _, n := range slices.Sorted(maps.Keys(b.p.kept)) {
		if b.back(n) != api.OK {
			b.t.Fatalf("Back to %d", n)
		}
		b.look()
	}
}

func TestAsItWas(t *testing.T) {
	from := rand.New(rand.NewSource(151))
	told := map[api.Errno]int{}
	for range 40 {
		b := newBoth(t)
		for range 150 {
			told[b.step(from)]++
			b.look()
		}
		b.wantSnapshots()
	}
	for _, why := range []api.Errno{api.OK, api.ErrForm, api.ErrNone, api.ErrState, api.ErrOrder} {
		if told[why] < 40 {
			t.Errorf("the error %d is too rare: %v", why, told)
		}
	}
}

// TestOfManySteps takes many times the cells of an arena.
func TestOfManySteps(t *testing.T) {
	from := rand.New(rand.NewSource(152))
	b := newBoth(t)
	for i := range 40000 {
		b.step(from)
		if i%100 == 0 {
			b.look()
		}
		if len(b.p.kept) > 20 {
			b.drop(slices.Min(slices.Collect(maps.Keys(b.p.kept))))
		}
	}
	b.wantSnapshots()
}

// turned tells h with its transactions done or not the other way round, and with all orders that these need.
func turned(h api.History) api.History {
	h = sample.Copy(h)
	h.Orders = nil
	for i := range h.Txs {
		h.Txs[i].Done = !h.Txs[i].Done
		for _, o := range h.Txs[i].Ops {
			if h.Txs[i].Done {
				h.Orders = append(h.Orders, api.Order{Key: o.Key, Txs: []int{h.Txs[i].Id}})
			}
		}
	}
	return h
}

// TestOfGreatSteps has deltas each of which takes more cells than an arena has.
func TestOfGreatSteps(t *testing.T) {
	b := newBoth(t)
	b.to(sample.History("1 c w5; 5: 1"))
	b.wantKeep(0, api.OK)
	for range 3 {
		b.to(ofSize(4096, 9996))
		b.look()
		b.to(turned(b.p.now))
		b.look()
		b.to(turned(b.p.now))
		b.look()
	}
	b.to(ofSize(2500, 4998))
	b.wantKeep(1, api.OK)
	b.to(turned(b.p.now))
	b.to(ofSize(2502, 4999))
	b.look()
	b.wantSnapshots()
	// One order of all, that is turned round.
	h := api.History{Orders: []api.Order{{Key: 7}}}
	for id := 1; id <= 2000; id++ {
		h.Txs = append(h.Txs, api.Tx{Id: id, Done: true, Ops: []api.Op{{Key: 7}}})
		h.Orders[0].Txs = append(h.Orders[0].Txs, id)
	}
	for range 60 {
		b.to(h)
		slices.Reverse(h.Orders[0].Txs)
	}
	b.look()
	for id := 1; id <= 2000; id++ {
		wantAt(t, b.s, b.p.now, id)
	}
	b.wantSnapshots()
}

// TestSnapshotsShareOperations keeps a transaction of many operations very often: without sharing there would be no memory for it.
func TestSnapshotsShareOperations(t *testing.T) {
	one := api.Tx{Id: 1}
	for range api.MaxOps {
		one.Ops = append(one.Ops, api.Op{Key: 3})
	}
	s := store.New()
	if why := s.Do(api.Delta{Now: []api.Tx{one}}); why != api.OK {
		t.Fatalf("Do: %d", why)
	}
	for n := range 9999 {
		if _, why := s.Keep(); why != api.OK {
			t.Fatalf("Keep number %d: %d", n, why)
		}
	}
	if s.Back(9998) != api.OK || s.Held() != 10000 {
		t.Errorf("Held: %d", s.Held())
	}
	wantHistory(t, s, api.History{Txs: []api.Tx{one}}, 10000)
}

// Memory

func TestWhatIsHandedInIsNotKept(t *testing.T) {
	const text = "1 c w5 w6; 2 c w5 r5@1.1; 5: 2 1; 6: 1"
	s := store.New()
	d := sample.Delta("+1 c w5 w6; +2 c w5 r5@1.1; +5: 2 1; +6: 1")
	if why := s.Do(d); why != api.OK {
		t.Fatalf("Do: %d", why)
	}
	sample.SpoilDelta(d)
	wantHistory(t, s, sample.History(text), 7)
	d = sample.Delta("-1 c w5 w6; +1 c w5 w6; -5: 2 1; +5: 2 1")
	if why := s.Do(d); why != api.OK {
		t.Fatalf("Do: %d", why)
	}
	sample.SpoilDelta(d)
	wantHistory(t, s, sample.History(text), 7)
}

func TestAnswersAreNewMemory(t *testing.T) {
	h := sample.History("1 c w5 w6; 2 c w5 r5@1.1; 5: 2 1; 6: 1")
	b := newBoth(t)
	b.to(h)
	b.wantKeep(0, api.OK)
	sample.Spoil(b.s.History())
	one, _ := b.s.Tx(1)
	sample.Spoil(api.History{Txs: []api.Tx{one}})
	sample.Spoil(api.History{Orders: []api.Order{{Key: 5, Txs: b.s.Order(5)}}})
	b.look()
	first, second := b.s.History(), b.s.History()
	sample.Spoil(first)
	if !history.Same(second, h) {
		t.Errorf("two answers share memory: %s", sample.Text(second))
	}
	b.wantWhy(b.back(0), api.OK)
	wantHistory(t, b.s, h, 14)
}
