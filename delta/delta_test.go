package delta_test

import (
	"cmp"
	"math"
	"math/rand"
	"slices"
	"testing"

	"tenter/api"
	"tenter/delta"
	"tenter/history"
	"tenter/sample"
	"tenter/txn"
)

// What the chapter says, once more, by going through all there is.

func sameOrder(a, b api.Order) bool { return a.Key == b.Key && slices.Equal(a.Txs, b.Txs) }

func sameBy(a, b api.Delta) bool {
	return history.Same(sample.Was(a), sample.Was(b)) && history.Same(sample.Now(a), sample.Now(b))
}

func rightBy(d api.Delta) bool {
	for _, h := range []api.History{sample.Was(d), sample.Now(d)} {
		for i := 1; i < len(h.Txs); i++ {
			if h.Txs[i].Id <= h.Txs[i-1].Id {
				return false
			}
		}
		for i := 1; i < len(h.Orders); i++ {
			if h.Orders[i].Key <= h.Orders[i-1].Key {
				return false
			}
		}
	}
	return true
}

func hasTx(l []api.Tx, x api.Tx) bool {
	return slices.ContainsFunc(l, func(t api.Tx) bool { return txn.Same(t, x) })
}

func hasOrder(l []api.Order, x api.Order) bool {
	return slices.ContainsFunc(l, func(o api.Order) bool { return sameOrder(o, x) })
}

func hasId(l []api.Tx, id int) bool {
	return slices.ContainsFunc(l, func(t api.Tx) bool { return t.Id == id })
}

func hasKey(l []api.Order, key int) bool {
	return slices.ContainsFunc(l, func(o api.Order) bool { return o.Key == key })
}

// withoutBy tells those of a that b has not, or not just so.
func withoutBy(a, b api.History) api.History {
	a = sample.Copy(a)
	a.Txs = slices.DeleteFunc(a.Txs, func(t api.Tx) bool { return hasTx(b.Txs, t) })
	a.Orders = slices.DeleteFunc(a.Orders, func(o api.Order) bool { return hasOrder(b.Orders, o) })
	return a
}

func ofBy(a, b api.History) (api.Delta, api.Errno) {
	if !history.Right(a) || !history.Right(b) {
		return api.Delta{}, api.ErrForm
	}
	w, n := withoutBy(a, b), withoutBy(b, a)
	return api.Delta{Was: w.Txs, Now: n.Txs, Old: w.Orders, New: n.Orders}, api.OK
}

func fitsBy(h api.History, d api.Delta) bool {
	lacks := slices.ContainsFunc(d.Was, func(t api.Tx) bool { return !hasTx(h.Txs, t) }) ||
		slices.ContainsFunc(d.Old, func(o api.Order) bool { return !hasOrder(h.Orders, o) })
	there := slices.ContainsFunc(d.Now, func(t api.Tx) bool { return hasId(h.Txs, t.Id) && !hasId(d.Was, t.Id) }) ||
		slices.ContainsFunc(d.New, func(o api.Order) bool { return hasKey(h.Orders, o.Key) && !hasKey(d.Old, o.Key) })
	return !lacks && !there
}

func applyBy(h api.History, d api.Delta) (api.History, api.Errno) {
	switch {
	case !history.Right(h) || !rightBy(d):
		return api.History{}, api.ErrForm
	case !fitsBy(h, d):
		return api.History{}, api.ErrState
	}
	made := withoutBy(h, sample.Was(d))
	made.Txs = append(made.Txs, d.Now...)
	made.Orders = append(made.Orders, d.New...)
	slices.SortFunc(made.Txs, func(a, b api.Tx) int { return cmp.Compare(a.Id, b.Id) })
	slices.SortFunc(made.Orders, func(a, b api.Order) int { return cmp.Compare(a.Key, b.Key) })
	if !history.Right(made) {
		return api.History{}, api.ErrOrder
	}
	return made, api.OK
}

// ofNumber tells what h has of an id, and of a key, of the same number.
func ofNumber(h api.History, n int) api.History {
	return api.History{
		Txs:    slices.DeleteFunc(slices.Clone(h.Txs), func(t api.Tx) bool { return t.Id != n }),
		Orders: slices.DeleteFunc(slices.Clone(h.Orders), func(o api.Order) bool { return o.Key != n }),
	}
}

func txsAlone(h api.History) api.History { return api.History{Txs: h.Txs} }

func ordersAlone(h api.History) api.History { return api.History{Orders: h.Orders} }

// joinBy goes through all numbers, and looks at transactions and orders one by one; the deltas have numbers from -9 to 19 alone.
func joinBy(d, e api.Delta) (api.Delta, api.Errno) {
	if !rightBy(d) || !rightBy(e) {
		return api.Delta{}, api.ErrForm
	}
	var all api.Delta
	for n := -9; n <= 19; n++ {
		for _, alone := range []func(h api.History) api.History{txsAlone, ordersAlone} {
			part := func(h api.History) api.History { return ofNumber(alone(h), n) }
			stands := func(d api.Delta) bool {
				return !history.Same(part(sample.Was(d)), api.History{}) || !history.Same(part(sample.Now(d)), api.History{})
			}
			first, last := d, e
			switch {
			case !stands(d):
				first = e
			case !stands(e):
				last = d
			case !history.Same(part(sample.Now(d)), part(sample.Was(e))):
				return api.Delta{}, api.ErrState
			}
			w, n := part(sample.Was(first)), part(sample.Now(last))
			if !history.Same(w, n) {
				all.Was, all.Now = append(all.Was, w.Txs...), append(all.Now, n.Txs...)
				all.Old, all.New = append(all.Old, w.Orders...), append(all.New, n.Orders...)
			}
		}
	}
	return all, api.OK
}

func keysBy(d api.Delta) []int {
	met := map[int]bool{}
	for _, h := range []api.History{sample.Was(d), sample.Now(d)} {
		for _, t := range h.Txs {
			for _, o := range t.Ops {
				met[o.Key] = true
			}
		}
		for _, o := range h.Orders {
			met[o.Key] = true
		}
	}
	var keys []int
	for key := range met {
		keys = append(keys, key)
	}
	slices.Sort(keys)
	return keys
}

// Each call, looked at.

// unchanged makes a call, and looks whether it left its deltas alone.
func unchanged(t *testing.T, call func(), l ...api.Delta) {
	t.Helper()
	var copies []api.Delta
	for _, d := range l {
		copies = append(copies, sample.CopyDelta(d))
	}
	call()
	for i, d := range l {
		if !sameBy(d, copies[i]) {
			t.Fatalf("a delta is %s, and was %s", sample.DeltaText(d), sample.DeltaText(copies[i]))
		}
	}
}

// asDelta takes histories as what was and what is, so that unchanged may look at them.
func asDelta(a, b api.History) api.Delta {
	return api.Delta{Was: a.Txs, Old: a.Orders, Now: b.Txs, New: b.Orders}
}

func wantOf(t *testing.T, a, b api.History, want api.Delta, wantWhy api.Errno) api.Delta {
	t.Helper()
	var got api.Delta
	unchanged(t, func() {
		var why api.Errno
		if got, why = delta.Of(a, b); why != wantWhy || !sameBy(got, want) {
			t.Fatalf("Of %s and %s: %s, %d; want %s, %d", sample.Text(a), sample.Text(b), sample.DeltaText(got), why, sample.DeltaText(want), wantWhy)
		}
	}, asDelta(a, b))
	return got
}

func wantApply(t *testing.T, h api.History, d api.Delta, want api.History, wantWhy api.Errno) api.History {
	t.Helper()
	var got api.History
	unchanged(t, func() {
		var why api.Errno
		if got, why = delta.Apply(h, d); why != wantWhy || !history.Same(got, want) {
			t.Fatalf("to %s: Apply of %s: %s, %d; want %s, %d", sample.Text(h), sample.DeltaText(d), sample.Text(got), why, sample.Text(want), wantWhy)
		}
	}, asDelta(h, api.History{}), d)
	return got
}

func wantJoin(t *testing.T, d, e, want api.Delta, wantWhy api.Errno) api.Delta {
	t.Helper()
	var got api.Delta
	unchanged(t, func() {
		var why api.Errno
		if got, why = delta.Join(d, e); why != wantWhy || !sameBy(got, want) {
			t.Fatalf("Join of %s and %s: %s, %d; want %s, %d", sample.DeltaText(d), sample.DeltaText(e), sample.DeltaText(got), why, sample.DeltaText(want), wantWhy)
		}
	}, d, e)
	return got
}

// wantLook looks at all that is told of one delta, right or not.
func wantLook(t *testing.T, d api.Delta) {
	t.Helper()
	unchanged(t, func() {
		if got := delta.Right(d); got != rightBy(d) {
			t.Fatalf("Right of %s: %v", sample.DeltaText(d), got)
		}
		if got := delta.Empty(d); got != sameBy(d, api.Delta{}) {
			t.Fatalf("Empty of %s: %v", sample.DeltaText(d), got)
		}
		if got := delta.Keys(d); !slices.Equal(got, keysBy(d)) {
			t.Fatalf("Keys of %s: %v", sample.DeltaText(d), got)
		}
		if got := delta.Invert(d); !history.Same(sample.Was(got), sample.Now(d)) || !history.Same(sample.Now(got), sample.Was(d)) {
			t.Fatalf("Invert of %s: %s", sample.DeltaText(d), sample.DeltaText(got))
		}
		if !delta.Same(d, sample.CopyDelta(d)) {
			t.Fatalf("%s is not the same as itself", sample.DeltaText(d))
		}
	}, d)
}

// eachStep goes through right histories: a one, what edits made of it, and what edits made of that.
func eachStep(t *testing.T, seed int64, rounds int, look func(a, b, c api.History, from *rand.Rand)) {
	t.Helper()
	from := rand.New(rand.NewSource(seed))
	edited := func(h api.History) api.History {
		for range from.Intn(6) {
			h = sample.DrawEdit(h, from.Intn)
		}
		return sample.Copy(h)
	}
	for range rounds {
		var a api.History
		for range 30 {
			b := edited(a)
			look(a, b, edited(b), from)
			a = b
		}
	}
}

// The example of the chapter.
func TestExample(t *testing.T) {
	d := wantOf(t, api.History{}, sample.History("1 c w5; 5: 1"), sample.Delta("+1 c w5; +5: 1"), api.OK)
	if got := delta.Keys(d); !slices.Equal(got, []int{5}) {
		t.Errorf("Keys: %v", got)
	}
}

// 14.1

func TestRight(t *testing.T) {
	for _, text := range []string{
		"", "+1 a", "-1 a", "-1 a; +1 a", "-1 a; -2 a; +1 c w5; +3 a", "-5: 1; +5: 2", "-5:; -6:; +4:; +6: 1 1", "-1048576 a; +0 a; +2000000 a", "-2 a; +1 a; -7: 1; +6: 1", "+1 a r5@1.1",
	} {
		if d := sample.Delta(text); !delta.Right(d) {
			t.Errorf("%q is not right", text)
		}
		wantLook(t, sample.Delta(text))
	}
	for _, text := range []string{
		"-1 a; -1 a", "-2 a; -1 a", "+1 a; +1 a", "+2 a; +1 a", "-5: 1; -5: 1", "-5:; -4:", "+5:; +5:", "+5: 1; +4: 1", "-1 a; -3 a; -2 a", "+1 a; +2 a; +2 c", "-3: 1; -4: 1; -4: 2", "+3:; +4:; +2:", "+1 a; +2 a; +1 a",
	} {
		if d := sample.Delta(text); delta.Right(d) {
			t.Errorf("%q is right", text)
		}
		wantLook(t, sample.Delta(text))
	}
	odd := api.Delta{Was: []api.Tx{{Id: math.MinInt}, {Id: 0}, {Id: math.MaxInt}}, New: []api.Order{{Key: math.MinInt}, {Key: -1}, {Key: math.MaxInt}}}
	wantLook(t, odd)
	wantLook(t, delta.Invert(odd))
	slices.Reverse(odd.Was)
	wantLook(t, odd)
}

func TestEmpty(t *testing.T) {
	for _, text := range []string{"+1 a", "-1 a", "+0 a", "-0:", "+0:", "+5: 1", "-5: 1"} {
		if delta.Empty(sample.Delta(text)) {
			t.Errorf("%q is empty", text)
		}
	}
	if !delta.Empty(api.Delta{}) || !delta.Empty(api.Delta{Was: []api.Tx{}, Now: []api.Tx{}, Old: []api.Order{}, New: []api.Order{}}) {
		t.Errorf("nothing is not empty")
	}
}

func TestKeys(t *testing.T) {
	for text, want := range map[string][]int{
		"": nil, "-1 a w5 w3 r9@0": {3, 5, 9}, "+1 a w5 r5@2.1 r4@1.1": {4, 5}, "-7: 1; +8: 1": {7, 8}, "-1 c w1; +2 a r2@1.1; -4: 3; +3: 4": {1, 2, 3, 4}, "+2 a; -2 a": nil, "+1 a w5; +1 a w4; -9:; -9: 1": {4, 5, 9},
	} {
		if got := delta.Keys(sample.Delta(text)); !slices.Equal(got, want) {
			t.Errorf("Keys of %q: %v", text, got)
		}
	}
	odd := api.Delta{Now: []api.Tx{{Ops: []api.Op{{Key: math.MaxInt}, {Key: -1}, {Read: true, Key: 0}}}}, Old: []api.Order{{Key: math.MinInt}}}
	if got := delta.Keys(odd); !slices.Equal(got, []int{math.MinInt, -1, 0, math.MaxInt}) {
		t.Errorf("Keys: %v", got)
	}
}

func TestInvert(t *testing.T) {
	for text, want := range map[string]string{
		"": "", "+1 a": "-1 a", "-1 c w5; +2 a; -5: 1; +6: 2 1": "+1 c w5; -2 a; +5: 1; -6: 2 1", "+2 a; +1 a; +1 c": "-2 a; -1 a; -1 c", "-5:; -5: 1": "+5:; +5: 1",
	} {
		if got := delta.Invert(sample.Delta(text)); !sameBy(got, sample.Delta(want)) {
			t.Errorf("Invert of %q: %s", text, sample.DeltaText(got))
		}
	}
}

func TestSame(t *testing.T) {
	texts := []string{
		"", "+1 a", "-1 a", "-1 a; +1 a", "+1 c", "+2 a", "+1 a; +2 a", "+2 a; +1 a", "+1 a; +1 a", "+1 a w5", "+1 a w6", "+1 a w5 w5", "+1 a r5@0", "+1 a r5@2.1", "+1 a r5@2.2",
		"+5: 1", "-5: 1", "+5:", "-5:", "+5: 1 2", "+5: 2 1", "+6: 1", "-5: 1; +5: 1", "-5:; -5:", "+5:; +5:", "+5: 1; +6: 1", "+6: 1; +5: 1", "+1 a; +5: 1", "-1 a; -5: 1", "-1 a; +5: 1",
	}
	for i, a := range texts {
		for k, b := range texts {
			if got := delta.Same(sample.Delta(a), sample.Delta(b)); got != (i == k) {
				t.Errorf("Same of %q and %q: %v", a, b, got)
			}
		}
	}
	if !delta.Same(api.Delta{}, api.Delta{Was: []api.Tx{}, New: []api.Order{{Key: 1}}[:0]}) {
		t.Errorf("nothing, nil or not, is not the same")
	}
}

// 14.2

func TestOf(t *testing.T) {
	for _, l := range [][3]string{
		{"", "", ""},
		{"1 a", "1 a", ""},
		{"1 a", "1 c", "-1 a; +1 c"},
		{"1 a", "2 a", "-1 a; +2 a"},
		{"1 c w5; 5: 1", "", "-1 c w5; -5: 1"},
		{"1 c w5; 5: 1", "1 a w5", "-1 c w5; +1 a w5; -5: 1"},
		{"1 c w5; 2 c w5; 5: 1 2", "1 c w5; 2 c w5; 5: 2 1", "-5: 1 2; +5: 2 1"},
		{"1 c w5; 2 c w5; 5: 1 2", "1 c w5; 2 c w5 w6; 3 a; 5: 1 2; 6: 2", "-2 c w5; +2 c w5 w6; +3 a; +6: 2"},
		{"1 c w5 r6@0; 2 a w5; 5: 1", "1 c r6@0 w5; 2 a w5; 5: 1", "-1 c w5 r6@0; +1 c r6@0 w5"},
		{"1 c w4 w6; 3 c w4; 9 a; 4: 3 1; 6: 1", "2 a; 3 c w4; 9 c w7; 4: 3; 7: 9", "-1 c w4 w6; -9 a; +2 a; +9 c w7; -4: 3 1; -6: 1; +4: 3; +7: 9"},
	} {
		a, b := sample.History(l[0]), sample.History(l[1])
		wantOf(t, a, b, sample.Delta(l[2]), api.OK)
		wantOf(t, b, a, delta.Invert(sample.Delta(l[2])), api.OK)
	}
}

// wrongHistories are not right, each for another reason.
func wrongHistories() []string {
	return []string{"1 c w5", "5:", "2 a; 1 a", "1 a; 1 a", "1 a r5@2.1", "1 c w5; 5: 1; 6:", "1 c w5; 5: 1 1", "0 a", "1 c w5; 5: 2"}
}

func TestOfWrong(t *testing.T) {
	right := sample.History("1 c w5; 5: 1")
	for _, text := range wrongHistories() {
		h := sample.History(text)
		wantOf(t, h, right, api.Delta{}, api.ErrForm)
		wantOf(t, right, h, api.Delta{}, api.ErrForm)
		wantOf(t, h, h, api.Delta{}, api.ErrForm)
		wantOf(t, h, api.History{}, api.Delta{}, api.ErrForm)
	}
}

// 14.3

func TestApply(t *testing.T) {
	h := sample.History("1 c w5; 3 c w5 w6; 4 a r5@1.1; 5: 3 1; 6: 3")
	for text, want := range map[string]string{
		"":                                  "1 c w5; 3 c w5 w6; 4 a r5@1.1; 5: 3 1; 6: 3",
		"+2 a":                              "1 c w5; 2 a; 3 c w5 w6; 4 a r5@1.1; 5: 3 1; 6: 3",
		"-4 a r5@1.1":                       "1 c w5; 3 c w5 w6; 5: 3 1; 6: 3",
		"-4 a r5@1.1; +4 a r5@1.1":          "1 c w5; 3 c w5 w6; 4 a r5@1.1; 5: 3 1; 6: 3",
		"-5: 3 1; +5: 1 3":                  "1 c w5; 3 c w5 w6; 4 a r5@1.1; 5: 1 3; 6: 3",
		"-3 c w5 w6; -5: 3 1; -6: 3; +5: 1": "1 c w5; 4 a r5@1.1; 5: 1",
		"-1 c w5; +1 a w5; -5: 3 1; +5: 3":  "1 a w5; 3 c w5 w6; 4 a r5@1.1; 5: 3; 6: 3",
		"+2 c w1 w9; +9 c w5; -5: 3 1; +1: 2; +5: 9 3 1; +9: 2":                              "1 c w5; 2 c w1 w9; 3 c w5 w6; 4 a r5@1.1; 9 c w5; 1: 2; 5: 9 3 1; 6: 3; 9: 2",
		"-1 c w5; -3 c w5 w6; -4 a r5@1.1; -5: 3 1; -6: 3":                                   "",
		"-1 c w5; -3 c w5 w6; -4 a r5@1.1; +2 c w5 r5@0; +7 a r5@2.1; -5: 3 1; -6: 3; +5: 2": "2 c w5 r5@0; 7 a r5@2.1; 5: 2",
		"-1 c w5; +1 c w5 w5 r6@3.1; -4 a r5@1.1; +4 c r5@1.2 r6@3.1; -6: 3; +6: 3":          "1 c w5 w5 r6@3.1; 3 c w5 w6; 4 c r5@1.2 r6@3.1; 5: 3 1; 6: 3",
	} {
		wantApply(t, h, sample.Delta(text), sample.History(want), api.OK)
	}
	wantApply(t, api.History{}, sample.Delta("+1 c w5; +5: 1"), sample.History("1 c w5; 5: 1"), api.OK)
	wantApply(t, api.History{}, api.Delta{}, api.History{}, api.OK)
}

func TestApplyOfWrong(t *testing.T) {
	h := sample.History("1 c w5; 3 c w5 w6; 4 a r5@1.1; 5: 3 1; 6: 3")
	for text, why := range map[string]api.Errno{
		"-1 c w5; -1 c w5": api.ErrForm, "+9 a; +8 a": api.ErrForm, "-5: 3 1; -5: 3 1; +5: 1 3": api.ErrForm, "-5: 3 1; +6: 3; +5: 1 3": api.ErrForm, "-2 a; +9 a; +9 a": api.ErrForm,
		"-2 a": api.ErrState, "-1 c": api.ErrState, "-1 a w5; +1 c w5": api.ErrState, "+4 a r5@1.1": api.ErrState, "+1 c w5": api.ErrState, "-0 a": api.ErrState, "-7:": api.ErrState, "-5: 1 3; +5: 1 3": api.ErrState, "-6:": api.ErrState, "+6: 3": api.ErrState, "+5:": api.ErrState,
		"-4 a r5@1.1; +3 c w5 w6": api.ErrState, "-4 a r5@1.1; -7: 1": api.ErrState, "-5: 3 1; +6: 3": api.ErrState, "-6: 3; +5: 1 3": api.ErrState, "+0 a; +1 a": api.ErrState, "+9 c w9; -9: 9": api.ErrState,
		"+0 a": api.ErrOrder, "+1048576 a": api.ErrOrder, "+9 c w5": api.ErrOrder, "+9 c w9": api.ErrOrder, "+9 a r9@9.9": api.ErrOrder, "+9 a r5@2.1": api.ErrOrder, "+7:": api.ErrOrder, "+7: 1": api.ErrOrder, "-6: 3": api.ErrOrder,
		"-5: 3 1; +5: 3": api.ErrOrder, "-5: 3 1; +5: 3 1 1": api.ErrOrder, "-5: 3 1; +5: 3 4": api.ErrOrder, "-1 c w5; -5: 3 1; +5: 3": api.ErrOrder, "-3 c w5 w6; -5: 3 1; +5: 1": api.ErrOrder, "-1 c w5; +1 a w5": api.ErrOrder, "+0: ; -5: 3 1; +5: 3 1": api.ErrOrder,
	} {
		wantApply(t, h, sample.Delta(text), api.History{}, why)
	}
	for _, text := range wrongHistories() {
		for _, other := range []string{"", "-9 a", "+9 a", "+9 a; +9 a", "+9 c w9"} {
			wantApply(t, sample.History(text), sample.Delta(other), api.History{}, api.ErrForm)
		}
	}
}

func TestApplyToMany(t *testing.T) {
	var h api.History
	for i := range api.MaxTxs {
		h.Txs = append(h.Txs, api.Tx{Id: i + 2})
	}
	wantApply(t, h, sample.Delta("+1 a"), api.History{}, api.ErrOrder)
	wantApply(t, h, sample.Delta("+5000 a"), api.History{}, api.ErrOrder)
	want := sample.Copy(h)
	want.Txs = append([]api.Tx{{Id: 1}}, want.Txs[1:]...)
	wantApply(t, h, sample.Delta("-2 a; +1 a"), want, api.OK)
}

// 14.4

func TestJoin(t *testing.T) {
	for _, l := range [][3]string{
		{"", "", ""},
		{"+1 a", "", "+1 a"},
		{"", "-1 a; +5: 1", "-1 a; +5: 1"},
		{"+1 a", "-1 a", ""},
		{"+1 a", "-1 a; +1 c", "+1 c"},
		{"-1 a", "+1 a", ""},
		{"-1 a", "+1 c", "-1 a; +1 c"},
		{"-1 a; +1 c", "-1 c; +1 a", ""},
		{"-1 a; +1 c", "-1 c", "-1 a"},
		{"-1 a; +1 c w5", "-1 c w5; +1 a w5", "-1 a; +1 a w5"},
		{"+2 a", "+1 a", "+1 a; +2 a"},
		{"-3 a; +2 a", "-2 a; -4 a; +1 c", "-3 a; -4 a; +1 c"},
		{"-5: 1", "+5: 1", ""},
		{"-5: 1 2; +5: 2 1", "-5: 2 1; +5: 1 2", ""},
		{"-5: 1; +5: 2", "-5: 2; +5: 3", "-5: 1; +5: 3"},
		{"+5:", "-5:", ""},
		{"+6: 1", "+5: 1", "+5: 1; +6: 1"},
		{"+6: 1; +7: 2", "-7: 2; +8:", "+6: 1; +8:"},
		{"-5:", "+5: 1", "-5:; +5: 1"},
		{"-1 a; +1 a", "", ""},
		{"", "-1 a; +1 a; -5: 1; +5: 1", ""},
		{"-1 a; +1 a", "-1 a; +1 a", ""},
		{"-1 a; +1 a", "-1 a", "-1 a"},
		{"+1 c w5; +5: 1", "-5: 1; +2 c w5; +5: 1 2", "+1 c w5; +2 c w5; +5: 1 2"},
		{"+1 c w5; +5: 1", "-1 c w5; -5: 1", ""},
	} {
		wantJoin(t, sample.Delta(l[0]), sample.Delta(l[1]), sample.Delta(l[2]), api.OK)
	}
}

func TestJoinOfWrong(t *testing.T) {
	for _, l := range [][2]string{
		{"+1 a", "+1 a"}, {"+1 a", "+1 c"}, {"+1 a", "-1 c"}, {"-1 a", "-1 a"}, {"-1 a", "-1 a; +1 c"}, {"-1 a; +1 c", "-1 a"}, {"-1 a; +1 c", "+1 a"}, {"+1 a w5", "-1 a w5 w5; +1 a"}, {"-1 a; +2 a", "-1 a; +2 c"},
		{"+5: 1", "+5: 1"}, {"+5: 1", "-5: 2"}, {"-5: 1", "-5: 1"}, {"-5: 1; +5: 2", "-5: 1; +5: 2"}, {"+5:", "+5:"}, {"-5:", "-5:"}, {"+5: 1 2", "-5: 2 1"}, {"+5:", "-5: 1"}, {"-5: 1; +5: 2", "+5: 1"},
		{"+1 a; +5: 1", "-1 a; -5: 2"}, {"+1 a; +5: 1", "-1 c; -5: 1"}, {"+1 a; +2 a; +3 a", "-1 a; -2 a; -3 c"}, {"+1 a", "-1 c; +0 a; +9 a"},
	} {
		wantJoin(t, sample.Delta(l[0]), sample.Delta(l[1]), api.Delta{}, api.ErrState)
	}
	for _, text := range []string{"+1 a; +1 a", "-2 a; -1 a", "+5:; +4:", "-5:; -5:"} {
		for _, other := range []string{"", "+1 a", "-1 a", "-5:", "+5:", "+7 a"} {
			wantJoin(t, sample.Delta(text), sample.Delta(other), api.Delta{}, api.ErrForm)
			wantJoin(t, sample.Delta(other), sample.Delta(text), api.Delta{}, api.ErrForm)
		}
	}
	odd := api.Delta{Now: []api.Tx{{Id: math.MinInt}, {Id: math.MaxInt}}, Old: []api.Order{{Key: math.MinInt}, {Key: math.MaxInt}}}
	wantJoin(t, odd, api.Delta{}, odd, api.OK)
	wantJoin(t, odd, delta.Invert(odd), api.Delta{}, api.OK)
}

// All of 14.1 to 14.4

func TestOfAny(t *testing.T) {
	told := map[api.Errno]int{}
	eachStep(t, 141, 60, func(a, b, c api.History, from *rand.Rand) {
		d, _ := ofBy(a, b)
		e, _ := ofBy(b, c)
		wantOf(t, a, b, d, api.OK)
		for _, l := range [][2]api.Delta{{d, e}, {d, sample.DrawOther(e, from.Intn)}, {sample.DrawOther(d, from.Intn), e}, {e, d}, {d, d}, {sample.DrawOther(d, from.Intn), sample.DrawOther(e, from.Intn)}} {
			for _, x := range l {
				wantLook(t, x)
				want, why := applyBy(a, x)
				told[why]++
				wantApply(t, a, x, want, why)
			}
			want, why := joinBy(l[0], l[1])
			told[why]++
			wantJoin(t, l[0], l[1], want, why)
			if got := delta.Same(l[0], l[1]); got != sameBy(l[0], l[1]) {
				t.Fatalf("Same of %s and %s: %v", sample.DeltaText(l[0]), sample.DeltaText(l[1]), got)
			}
		}
	})
	for _, why := range []api.Errno{api.OK, api.ErrForm, api.ErrState, api.ErrOrder} {
		if told[why] < 500 {
			t.Errorf("the error %d is too rare: %v", why, told)
		}
	}
}

// 14.5

func TestThereAndBack(t *testing.T) {
	eachStep(t, 142, 60, func(a, _, b api.History, from *rand.Rand) {
		d, why := delta.Of(a, b)
		if why != api.OK || !delta.Right(d) {
			t.Fatalf("Of %s and %s: %s, %d", sample.Text(a), sample.Text(b), sample.DeltaText(d), why)
		}
		wantApply(t, a, d, b, api.OK)
		wantApply(t, b, delta.Invert(d), a, api.OK)
		if delta.Empty(d) != history.Same(a, b) {
			t.Fatalf("Of %s and %s: %s", sample.Text(a), sample.Text(b), sample.DeltaText(d))
		}
	})
}

// 14.6

func TestOneBehindTheOther(t *testing.T) {
	eachStep(t, 143, 60, func(a, b, c api.History, from *rand.Rand) {
		d, _ := delta.Of(a, b)
		e, _ := delta.Of(b, c)
		all, _ := delta.Of(a, c)
		wantApply(t, a, wantJoin(t, d, e, all, api.OK), c, api.OK)
		wantJoin(t, delta.Invert(e), delta.Invert(d), delta.Invert(all), api.OK)
		wantJoin(t, d, delta.Invert(d), api.Delta{}, api.OK)
	})
}

// Memory

// wantNew looks whether a call, whose answer is told as a delta, shares memory with what it was given.
func wantNew(t *testing.T, name string, call func(l []api.Delta) api.Delta, l ...api.Delta) {
	t.Helper()
	want := sample.CopyDelta(call(l))
	unchanged(t, func() { sample.SpoilDelta(call(l)) }, l...)
	var given []api.Delta
	for _, d := range l {
		given = append(given, sample.CopyDelta(d))
	}
	got := call(given)
	for _, d := range given {
		sample.SpoilDelta(d)
	}
	if !sameBy(got, want) {
		t.Errorf("%s: what is told shares memory with what was given: %s, and was %s", name, sample.DeltaText(got), sample.DeltaText(want))
	}
}

func TestAnswersAreNewMemory(t *testing.T) {
	eachStep(t, 144, 5, func(a, b, c api.History, from *rand.Rand) {
		d, _ := delta.Of(a, b)
		e, _ := delta.Of(b, c)
		wantNew(t, "Of", func(l []api.Delta) api.Delta {
			got, _ := delta.Of(sample.Was(l[0]), sample.Now(l[0]))
			return got
		}, asDelta(a, b))
		wantNew(t, "Invert", func(l []api.Delta) api.Delta { return delta.Invert(l[0]) }, d)
		wantNew(t, "Apply", func(l []api.Delta) api.Delta {
			got, _ := delta.Apply(sample.Was(l[0]), l[1])
			return asDelta(got, api.History{})
		}, asDelta(a, api.History{}), d)
		wantNew(t, "Join", func(l []api.Delta) api.Delta {
			got, _ := delta.Join(l[0], l[1])
			return got
		}, d, e)
	})
}

// TestSharesNothingWithin changes one list of an answer, and looks at the others.
func TestSharesNothingWithin(t *testing.T) {
	d := sample.Delta("-1 c w5; +1 c w5; -5: 1; +5: 1")
	x := api.Delta{Was: d.Was, Now: d.Was, Old: d.Old, New: d.Old}
	got := delta.Invert(x)
	sample.Spoil(sample.Was(got))
	if sample.Text(sample.Now(got)) != "1 c w5; 5: 1" {
		t.Errorf("lists of one answer share memory: %s", sample.DeltaText(got))
	}
	one := api.Order{Key: 7, Txs: []int{1}}
	all, why := delta.Join(api.Delta{Old: []api.Order{one}}, api.Delta{New: []api.Order{{Key: 8, Txs: one.Txs}}})
	sample.Spoil(sample.Was(all))
	if why != api.OK || sample.Text(sample.Now(all)) != "8: 1" {
		t.Errorf("lists of one answer share memory: %s, %d", sample.DeltaText(all), why)
	}
}
