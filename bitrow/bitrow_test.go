package bitrow_test

import (
	"math"
	"math/rand"
	"slices"
	"testing"

	"tenter/api"
	"tenter/bitrow"
)

// lengths lie on both sides of where a word ends.
func lengths() []int { return []int{0, 1, 2, 63, 64, 65, 70, 127, 128, 129, 200} }

// far are numbers that are a place of no row.
func far() []int {
	return []int{-1, -2, -63, -64, -65, api.MaxBits, api.MaxBits + 1, math.MinInt32, math.MaxInt32, math.MinInt, math.MinInt + 1, math.MaxInt - 1, math.MaxInt}
}

// someOf tells places below n, rising, each taken with one chance in the given number.
func someOf(from *rand.Rand, n, chance int) []int {
	var l []int
	for i := range n {
		if from.Intn(chance) == 0 {
			l = append(l, i)
		}
	}
	return l
}

// placesOf tells lists of places of a row of length n: none, all, the ends, and some.
func placesOf(n int) [][]int {
	from := rand.New(rand.NewSource(int64(n)))
	l := [][]int{nil, someOf(from, n, 1), someOf(from, n, 2), someOf(from, n, 2), someOf(from, n, 9)}
	if n > 0 {
		l = append(l, []int{0}, []int{n - 1})
	}
	return l
}

// only tells those of l that keep lets stay.
func only(l []int, keep func(i int) bool) []int {
	var kept []int
	for _, i := range l {
		if keep(i) {
			kept = append(kept, i)
		}
	}
	return kept
}

// wantRow looks at a row by all calls that tell its places.
func wantRow(t *testing.T, what string, r *bitrow.Row, n int, places []int) {
	t.Helper()
	if r == nil {
		t.Fatalf("%s: a nil row", what)
	}
	if r.Len() != n {
		t.Fatalf("%s: Len %d, want %d", what, r.Len(), n)
	}
	if r.Count() != len(places) {
		t.Fatalf("%s: Count %d, want %d", what, r.Count(), len(places))
	}
	if !slices.Equal(r.List(), places) {
		t.Fatalf("%s: List %v, want %v", what, r.List(), places)
	}
	for i := -1; i <= n+64; i++ {
		if has := slices.Contains(places, i); r.Has(i) != has {
			t.Fatalf("%s: Has(%d) is %v, want %v", what, i, r.Has(i), has)
		}
	}
}

// 1.1

func TestNewHasTheLengthThatIsAskedFor(t *testing.T) {
	for _, n := range lengths() {
		wantRow(t, "New", bitrow.New(n), n, nil)
	}
}

func TestNewBoundsTheLength(t *testing.T) {
	want := map[int]int{
		-1: 0, -64: 0, math.MinInt: 0, 0: 0,
		api.MaxBits - 1: api.MaxBits - 1, api.MaxBits: api.MaxBits,
		api.MaxBits + 1: api.MaxBits, math.MaxInt - 1: api.MaxBits, math.MaxInt: api.MaxBits,
	}
	for n, length := range want {
		for _, r := range []*bitrow.Row{bitrow.New(n), bitrow.Of(n)} {
			if r == nil || r.Len() != length || r.Count() != 0 || len(r.List()) != 0 || r.Next(0) != -1 {
				t.Errorf("of length %d: not an empty row of length %d", n, length)
			}
		}
	}
}

func TestLongestRowHasItsLastPlace(t *testing.T) {
	for _, n := range []int{api.MaxBits, api.MaxBits + 9, math.MaxInt} {
		r := bitrow.Of(n, 0, api.MaxBits-1, api.MaxBits, api.MaxBits+8)
		if want := []int{0, api.MaxBits - 1}; !slices.Equal(r.List(), want) {
			t.Errorf("of length %d: List %v, want %v", n, r.List(), want)
		}
		if r.Has(api.MaxBits) || r.Set(api.MaxBits, true) || r.Next(1) != api.MaxBits-1 || r.Next(api.MaxBits) != -1 {
			t.Errorf("of length %d: there is a place past the end", n)
		}
	}
}

func TestOfSetsWhatIsAPlace(t *testing.T) {
	wantRow(t, "the document's row", bitrow.Of(70, 0, 63, 69, 70), 70, []int{0, 63, 69})
	wantRow(t, "unsorted, and twice", bitrow.Of(70, 69, 5, 69, 64, 5), 70, []int{5, 64, 69})
	wantRow(t, "of length 0", bitrow.Of(0, 0, 1), 0, nil)
	wantRow(t, "of a length below 0", bitrow.Of(-5, 0, 1, -5), 0, nil)
	wantRow(t, "without places", bitrow.Of(9), 9, nil)
	for _, n := range lengths() {
		wantRow(t, "of places that there aren't", bitrow.Of(n, far()...), n, nil)
		for _, l := range placesOf(n) {
			wantRow(t, "Of", bitrow.Of(n, l...), n, l)
		}
	}
}

func TestOfNeitherChangesNorKeepsItsList(t *testing.T) {
	l := []int{7, 3, 3, 99}
	r := bitrow.Of(70, l...)
	if !slices.Equal(l, []int{7, 3, 3, 99}) {
		t.Errorf("the list is %v", l)
	}
	l[0], l[1] = 1, 2
	wantRow(t, "behind a change of the list", r, 70, []int{3, 7})
}

func TestHasOfNoPlace(t *testing.T) {
	for _, n := range lengths() {
		r := bitrow.Of(n, someOf(rand.New(rand.NewSource(1)), n, 1)...)
		for _, i := range append(far(), n, n+1, n+63, n+64) {
			if r.Has(i) {
				t.Errorf("length %d: Has(%d)", n, i)
			}
		}
	}
}

func TestListIsNewMemory(t *testing.T) {
	r := bitrow.Of(70, 1, 2)
	l := r.List()
	l[0], l[1] = 50, 60
	wantRow(t, "behind a change of its list", r, 70, []int{1, 2})
}

// 1.2

func TestSetTellsWhetherItWasOtherwise(t *testing.T) {
	for _, n := range lengths() {
		for i := range n {
			r := bitrow.New(n)
			if r.Set(i, false) {
				t.Fatalf("length %d: Set(%d, false) of nothing changed it", n, i)
			}
			if !r.Set(i, true) || r.Set(i, true) {
				t.Fatalf("length %d: Set(%d, true) is to change it once", n, i)
			}
			wantRow(t, "one set", r, n, []int{i})
			if !r.Set(i, false) || r.Set(i, false) {
				t.Fatalf("length %d: Set(%d, false) is to change it once", n, i)
			}
			wantRow(t, "none set", r, n, nil)
		}
	}
}

func TestSetLeavesOtherPlaces(t *testing.T) {
	from := rand.New(rand.NewSource(2))
	r, on := bitrow.New(130), map[int]bool{}
	for range 2000 {
		i, to := from.Intn(130), from.Intn(2) == 0
		if r.Set(i, to) != (on[i] != to) {
			t.Fatalf("Set(%d, %v) of one that is %v", i, to, on[i])
		}
		on[i] = to
	}
	all := someOf(from, 130, 1)
	wantRow(t, "behind many", r, 130, only(all, func(i int) bool { return on[i] }))
}

func TestSetOfNoPlace(t *testing.T) {
	for _, n := range lengths() {
		for _, l := range placesOf(n) {
			r := bitrow.Of(n, l...)
			for _, i := range append(far(), n, n+1, n+63, n+64) {
				if r.Set(i, true) || r.Set(i, false) {
					t.Errorf("length %d: Set(%d) changed something", n, i)
				}
			}
			wantRow(t, "behind Set of no place", r, n, l)
		}
	}
}

func TestNext(t *testing.T) {
	for _, n := range lengths() {
		for _, l := range placesOf(n) {
			r := bitrow.Of(n, l...)
			for _, i := range append(far(), someOf(rand.New(rand.NewSource(3)), n+70, 1)...) {
				want := -1
				if behind := only(l, func(p int) bool { return p >= i }); len(behind) > 0 {
					want = behind[0]
				}
				if r.Next(i) != want {
					t.Fatalf("length %d of %v: Next(%d) is %d, want %d", n, l, i, r.Next(i), want)
				}
			}
		}
	}
}

func TestNextFarOff(t *testing.T) {
	r := bitrow.Of(api.MaxBits, 40000)
	if r.Next(0) != 40000 || r.Next(40000) != 40000 || r.Next(40001) != -1 {
		t.Errorf("Next %d, %d, %d", r.Next(0), r.Next(40000), r.Next(40001))
	}
}

// What is next in both is next in what they have together, whatever their lengths.
func TestNextBoth(t *testing.T) {
	from := rand.New(rand.NewSource(4))
	rows := []*bitrow.Row{nil}
	for _, n := range lengths() {
		for _, l := range placesOf(n) {
			if n <= 200 || from.Intn(4) == 0 {
				rows = append(rows, bitrow.Of(n, l...))
			}
		}
	}
	for range 4000 {
		r, o := rows[from.Intn(len(rows))], rows[from.Intn(len(rows))]
		both := r.Copy()
		both.And(o)
		for _, i := range append(far(), from.Intn(r.Len()+2), from.Intn(r.Len()+2)&^63, from.Intn(r.Len()+2)|63) {
			if got, want := r.NextBoth(o, i), both.Next(i); got != want {
				t.Fatalf("of %v and %v: NextBoth(%d) is %d, want %d", r.List(), o.List(), i, got, want)
			}
		}
	}
}

// 1.3

// putting is a call that puts two rows together, and which places are set then.
type putting struct {
	name string
	call func(r, o *bitrow.Row) bool
	rule func(mine, theirs bool) bool
}

func puttings() []putting {
	return []putting{
		{"Or", (*bitrow.Row).Or, func(mine, theirs bool) bool { return mine || theirs }},
		{"Minus", (*bitrow.Row).Minus, func(mine, theirs bool) bool { return mine && !theirs }},
		{"And", (*bitrow.Row).And, func(mine, theirs bool) bool { return mine && theirs }},
	}
}

// wantPut looks at what p makes of a row of length n and another one (which may be nil) of the places theirs.
func wantPut(t *testing.T, p putting, n int, mine []int, o *bitrow.Row, theirs []int) {
	t.Helper()
	var want []int
	for i := range n {
		if p.rule(slices.Contains(mine, i), slices.Contains(theirs, i)) {
			want = append(want, i)
		}
	}
	r := bitrow.Of(n, mine...)
	if changed := p.call(r, o); changed != !slices.Equal(mine, want) {
		t.Fatalf("%s of %v and %v tells %v", p.name, mine, theirs, changed)
	}
	wantRow(t, p.name, r, n, want)
	if p.call(r, o) {
		t.Fatalf("%s of %v and %v changed something once more", p.name, mine, theirs)
	}
}

func TestPutTogetherByPlaces(t *testing.T) {
	for _, p := range puttings() {
		for _, n := range lengths() {
			for _, m := range lengths() {
				for _, mine := range placesOf(n) {
					for _, theirs := range placesOf(m) {
						o := bitrow.Of(m, theirs...)
						wantPut(t, p, n, mine, o, theirs)
						if o.Len() != m || !slices.Equal(o.List(), theirs) {
							t.Fatalf("%s changed the other row", p.name)
						}
					}
				}
			}
		}
	}
}

func TestPutTogetherWithItself(t *testing.T) {
	for _, n := range lengths() {
		for _, l := range placesOf(n) {
			r := bitrow.Of(n, l...)
			if r.Or(r) || r.And(r) {
				t.Errorf("%v with itself is another one", l)
			}
			wantRow(t, "with itself", r, n, l)
			if r.Minus(r) != (len(l) > 0) {
				t.Errorf("%v less itself: whether it is another one", l)
			}
			wantRow(t, "less itself", r, n, nil)
		}
	}
}

func TestPutTogetherWithNil(t *testing.T) {
	for _, p := range puttings() {
		for _, n := range lengths() {
			for _, mine := range placesOf(n) {
				wantPut(t, p, n, mine, nil, nil)
			}
		}
	}
}

func TestPutTogetherLeavesNoPlacePastTheEnd(t *testing.T) {
	long := bitrow.Of(200, someOf(rand.New(rand.NewSource(4)), 200, 1)...)
	r := bitrow.New(70)
	r.Or(long)
	if r.Count() != 70 || r.Next(70) != -1 || !bitrow.Same(r, bitrow.Of(70, r.List()...)) {
		t.Errorf("Count %d, Next(70) %d", r.Count(), r.Next(70))
	}
	if r.Or(long) {
		t.Errorf("what is past the end counts as a change")
	}
	if one := bitrow.Of(70, 69).Moved(-69); !slices.Equal(one.List(), []int{0}) {
		t.Errorf("moved: %v", one.List())
	}
	if !slices.Equal(r.Moved(-60).List(), someOf(rand.New(rand.NewSource(4)), 10, 1)) {
		t.Errorf("what is past the end was moved in: %v", r.Moved(-60).List())
	}
}

func TestPutTogetherKeepsNothingOfTheOther(t *testing.T) {
	o := bitrow.Of(70, 1, 65)
	r := bitrow.New(70)
	r.Or(o)
	o.Set(1, false)
	o.Set(2, true)
	wantRow(t, "behind a change of the other one", r, 70, []int{1, 65})
	r.Set(3, true)
	wantRow(t, "the other one", o, 70, []int{2, 65})
}

// 1.4

func TestMoved(t *testing.T) {
	for _, n := range lengths() {
		for _, l := range placesOf(n) {
			r := bitrow.Of(n, l...)
			for k := -n - 66; k <= n+66; k++ {
				var want []int
				for _, i := range l {
					if i+k >= 0 && i+k < n {
						want = append(want, i+k)
					}
				}
				if m := r.Moved(k); m == nil || m.Len() != n || !slices.Equal(m.List(), want) || m.Count() != len(want) {
					t.Fatalf("length %d: %v moved by %d: want %v", n, l, k, want)
				}
			}
			for _, k := range far() {
				if k > -n && k < n {
					continue
				}
				wantRow(t, "moved far", r.Moved(k), n, nil)
			}
			wantRow(t, "the row that was moved", r, n, l)
		}
	}
}

func TestMovedExamples(t *testing.T) {
	r := bitrow.Of(70, 0, 63, 69, 70)
	wantRow(t, "by 1", r.Moved(1), 70, []int{1, 64})
	wantRow(t, "by -64", r.Moved(-64), 70, []int{5})
	long := bitrow.Of(api.MaxBits, 0, 1, api.MaxBits-1)
	if got := long.Moved(api.MaxBits - 1).List(); !slices.Equal(got, []int{api.MaxBits - 1}) {
		t.Errorf("the longest, up: %v", got)
	}
	if got := long.Moved(1 - api.MaxBits).List(); !slices.Equal(got, []int{0}) {
		t.Errorf("the longest, down: %v", got)
	}
}

func TestMovedAndCopyAreNewMemory(t *testing.T) {
	makings := map[string]func(r *bitrow.Row) *bitrow.Row{
		"Moved(0)": func(r *bitrow.Row) *bitrow.Row { return r.Moved(0) },
		"Copy":     func(r *bitrow.Row) *bitrow.Row { return r.Copy() },
	}
	for name, call := range makings {
		r := bitrow.Of(70, 1, 65)
		m := call(r)
		wantRow(t, name, m, 70, []int{1, 65})
		m.Set(2, true)
		wantRow(t, name+": the row behind a change of the answer", r, 70, []int{1, 65})
		r.Set(65, false)
		wantRow(t, name+": the answer behind a change of the row", m, 70, []int{1, 2, 65})
	}
}

func TestCopy(t *testing.T) {
	for _, n := range append(lengths(), api.MaxBits) {
		for _, l := range [][]int{nil, someOf(rand.New(rand.NewSource(5)), n, 3)} {
			c := bitrow.Of(n, l...).Copy()
			if c == nil || c.Len() != n || !slices.Equal(c.List(), l) {
				t.Errorf("a copy of length %d is another one", n)
			}
		}
	}
}

func TestSame(t *testing.T) {
	for _, n := range lengths() {
		for _, m := range lengths() {
			for _, mine := range placesOf(n) {
				for _, theirs := range placesOf(m) {
					want := n == m && slices.Equal(mine, theirs)
					if bitrow.Same(bitrow.Of(n, mine...), bitrow.Of(m, theirs...)) != want {
						t.Fatalf("Same of %v of %d and %v of %d: want %v", mine, n, theirs, m, want)
					}
				}
			}
		}
	}
	r := bitrow.Of(70, 3)
	if !bitrow.Same(r, r) {
		t.Errorf("a row is not the same as itself")
	}
	r.Set(3, false)
	if !bitrow.Same(r, bitrow.New(70)) {
		t.Errorf("a row with nothing set any more is not as a new one")
	}
}

// 1.5

func TestNilRow(t *testing.T) {
	var r *bitrow.Row
	if r.Len() != 0 || r.Count() != 0 || len(r.List()) != 0 {
		t.Errorf("Len %d, Count %d, List %v", r.Len(), r.Count(), r.List())
	}
	for _, i := range append(far(), 0, 1, 64) {
		if r.Has(i) || r.Set(i, true) || r.Set(i, false) || r.Next(i) != -1 {
			t.Errorf("a nil row has the place %d", i)
		}
		wantRow(t, "a nil row moved", r.Moved(i), 0, nil)
	}
	wantRow(t, "a nil row's copy", r.Copy(), 0, nil)
	for _, p := range puttings() {
		for _, o := range []*bitrow.Row{nil, bitrow.New(0), bitrow.Of(70, 0, 65)} {
			if p.call(r, o) {
				t.Errorf("%s changed a nil row", p.name)
			}
		}
	}
}

func TestNilRowIsTheSameAsOneOfLengthNought(t *testing.T) {
	empty := bitrow.New(0)
	for _, pair := range [][2]*bitrow.Row{{nil, nil}, {nil, empty}, {empty, nil}, {empty, empty}} {
		if !bitrow.Same(pair[0], pair[1]) {
			t.Errorf("they are not the same")
		}
	}
	for _, one := range []*bitrow.Row{bitrow.New(1), bitrow.Of(1, 0), bitrow.New(64), bitrow.Of(70, 65)} {
		if bitrow.Same(nil, one) || bitrow.Same(one, nil) || bitrow.Same(empty, one) || bitrow.Same(one, empty) {
			t.Errorf("one of length %d is the same as none", one.Len())
		}
	}
}

// 1.6

func TestCountsOfTwoRows(t *testing.T) {
	for _, n := range append(lengths(), 4096) {
		for _, a := range placesOf(n) {
			for _, b := range placesOf(n) {
				all, both := bitrow.Of(n, a...), bitrow.Of(n, a...)
				all.Or(bitrow.Of(n, b...))
				both.And(bitrow.Of(n, b...))
				if all.Count()+both.Count() != len(a)+len(b) {
					t.Fatalf("length %d: %d together, %d both, of %d and %d", n, all.Count(), both.Count(), len(a), len(b))
				}
			}
		}
	}
}

// 1.7

func TestMovedThereAndBack(t *testing.T) {
	for _, n := range lengths() {
		for _, l := range placesOf(n) {
			for k := -n - 1; k <= n+1; k++ {
				stayed := only(l, func(i int) bool { return i+k >= 0 && i+k < n })
				wantRow(t, "there and back", bitrow.Of(n, l...).Moved(k).Moved(-k), n, stayed)
			}
		}
	}
}
