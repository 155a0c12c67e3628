package pack_test

import (
	"math"
	"math/rand"
	"slices"
	"testing"

	"tenter/api"
	"tenter/pack"
)

// edgeOf names the parts of an edge in the order in which edges stand.
func edgeOf(from, kind, key, to int) api.Edge {
	return api.Edge{From: from, To: to, Kind: kind, Key: key}
}

func versionOf(tx, key, nth int) api.Version { return api.Version{Tx: tx, Key: key, Nth: nth} }

// edgesWithNumbers are all mixtures of parts at the edges of what they may be.
func edgesWithNumbers() []api.Edge {
	var l []api.Edge
	for _, from := range []int{1, 2, 524288, api.MaxId} {
		for _, kind := range []int{api.WW, api.WR, api.RW} {
			for _, key := range []int{1, 2, 524288, api.MaxKey} {
				for _, to := range []int{1, 2, 524288, api.MaxId} {
					l = append(l, edgeOf(from, kind, key, to))
				}
			}
		}
	}
	return l
}

// oddNumbers are neither ids, nor keys, nor kinds, nor a version's number.
func oddNumbers() []int {
	return []int{math.MinInt, math.MinInt32, -api.MaxId, -1, api.MaxId + 1, 1 << 21, math.MaxInt32, 1 << 32, 1<<32 + 1, 1<<62 + 1, math.MaxInt}
}

// anyEdges have any numbers, often the same ones.
func anyEdges(seed int64, n int) []api.Edge {
	from := rand.New(rand.NewSource(seed))
	numbers := append(oddNumbers(), 0, 1, 2, 3)
	one := func() int { return numbers[from.Intn(len(numbers))] }
	var l []api.Edge
	for range n {
		l = append(l, edgeOf(one(), one(), one(), one()))
	}
	return l
}

// ahead is the order of the document, part by part.
func ahead(a, b api.Edge) bool {
	if a.From != b.From {
		return a.From < b.From
	}
	if a.Kind != b.Kind {
		return a.Kind < b.Kind
	}
	if a.Key != b.Key {
		return a.Key < b.Key
	}
	return a.To < b.To
}

// 2.1

func TestEdgeNumbers(t *testing.T) {
	want := map[api.Edge]uint64{
		edgeOf(1, api.WR, 3, 2):                          6597072912386,
		edgeOf(1, api.WW, 1, 1):                          1<<42 + 1<<40 + 1<<20 + 1,
		edgeOf(7, api.RW, 5, 9):                          7<<42 + 3<<40 + 5<<20 + 9,
		edgeOf(4, api.WW, 6, 4):                          4<<42 + 1<<40 + 6<<20 + 4,
		edgeOf(api.MaxId, api.RW, api.MaxKey, api.MaxId): 1<<62 - 1,
	}
	for e, x := range want {
		if got, why := pack.Edge(e); got != x || why != api.OK {
			t.Errorf("Edge(%v): %d, %d; want %d", e, got, why, x)
		}
		if got, why := pack.Unedge(x); got != e || why != api.OK {
			t.Errorf("Unedge(%d): %v, %d; want %v", x, got, why, e)
		}
	}
}

func TestEdgeThereAndBack(t *testing.T) {
	met := map[uint64]bool{}
	for _, e := range edgesWithNumbers() {
		x, why := pack.Edge(e)
		if why != api.OK || met[x] {
			t.Fatalf("Edge(%v): %d, %d", e, x, why)
		}
		met[x] = true
		if back, why := pack.Unedge(x); back != e || why != api.OK {
			t.Fatalf("Unedge of Edge(%v): %v, %d", e, back, why)
		}
	}
}

func wantNoEdgeNumber(t *testing.T, e api.Edge) {
	t.Helper()
	if x, why := pack.Edge(e); x != 0 || why != api.ErrRange {
		t.Errorf("Edge(%v): %d, %d; want 0, ErrRange", e, x, why)
	}
}

func TestEdgeOutOfRange(t *testing.T) {
	for _, n := range append(oddNumbers(), 0) {
		wantNoEdgeNumber(t, edgeOf(n, api.WW, 1, 1))
		wantNoEdgeNumber(t, edgeOf(1, n, 1, 1))
		wantNoEdgeNumber(t, edgeOf(1, api.WW, n, 1))
		wantNoEdgeNumber(t, edgeOf(1, api.WW, 1, n))
		wantNoEdgeNumber(t, edgeOf(n, n, n, n))
	}
	for _, kind := range []int{4, 5, 6, 7, -3} {
		wantNoEdgeNumber(t, edgeOf(1, kind, 1, 1))
	}
	wantNoEdgeNumber(t, api.Edge{})
}

func wantNoEdge(t *testing.T, x uint64) {
	t.Helper()
	if e, why := pack.Unedge(x); e != (api.Edge{}) || why != api.ErrForm {
		t.Errorf("Unedge(%d): %v, %d; want none, ErrForm", x, e, why)
	}
}

func TestUnedgeOfNoNumber(t *testing.T) {
	const right = uint64(1<<42 + 1<<40 + 1<<20 + 1)
	for _, part := range []uint64{1 << 42, 1 << 40, 1 << 20, 1} {
		wantNoEdge(t, right-part)
	}
	for _, more := range []uint64{1 << 62, 1 << 63, 3 << 62} {
		wantNoEdge(t, right+more)
	}
	for _, x := range []uint64{0, 1, 7, math.MaxUint64, 1 << 62, 1 << 63} {
		wantNoEdge(t, x)
	}
}

func TestUnedgeTellsJustWhatHasThatNumber(t *testing.T) {
	from := rand.New(rand.NewSource(6))
	right := 0
	for range 20000 {
		// Some low bits are cleared, and some high ones, so that parts are often 0.
		x := from.Uint64() >> from.Intn(10) >> from.Intn(44) << from.Intn(44)
		want, why := parted(x), api.OK
		if y, fault := pack.Edge(want); fault != api.OK || y != x {
			want, why = api.Edge{}, api.ErrForm
		} else {
			right++
		}
		if e, got := pack.Unedge(x); e != want || got != why {
			t.Fatalf("Unedge(%d): %v, %d; want %v, %d", x, e, got, want, why)
		}
	}
	if right < 100 || right > 19900 {
		t.Fatalf("%d of 20000 numbers are those of edges: too few of one kind", right)
	}
}

// parted cuts a number as an edge's is cut, right or not.
func parted(x uint64) api.Edge {
	return edgeOf(int(x/(1<<42)), int(x/(1<<40)%4), int(x/(1<<20)%(1<<20)), int(x%(1<<20)))
}

// 2.2

func TestVersionNumbers(t *testing.T) {
	want := map[api.Version]uint64{
		versionOf(2, 1, 3):                               8589938691,
		versionOf(0, 1, 0):                               4096,
		versionOf(0, api.MaxKey, 0):                      api.MaxKey << 12,
		versionOf(1, 1, 1):                               1<<32 + 1<<12 + 1,
		versionOf(api.MaxId, 1, 1):                       api.MaxId<<32 + 1<<12 + 1,
		versionOf(1, api.MaxKey, 1):                      1<<32 + api.MaxKey<<12 + 1,
		versionOf(1, 1, api.MaxNth):                      1<<32 + 1<<12 + api.MaxNth,
		versionOf(api.MaxId, api.MaxKey, api.MaxNth):     1<<52 - 1,
		versionOf(api.MaxId-1, api.MaxKey-1, api.MaxNth): (api.MaxId-1)<<32 + (api.MaxKey-1)<<12 + api.MaxNth,
	}
	for v, x := range want {
		if got, why := pack.Version(v); got != x || why != api.OK {
			t.Errorf("Version(%v): %d, %d; want %d", v, got, why, x)
		}
		if got, why := pack.Unversion(x); got != v || why != api.OK {
			t.Errorf("Unversion(%d): %v, %d; want %v", x, got, why, v)
		}
	}
}

func wantNoVersionNumber(t *testing.T, v api.Version) {
	t.Helper()
	if x, why := pack.Version(v); x != 0 || why != api.ErrRange {
		t.Errorf("Version(%v): %d, %d; want 0, ErrRange", v, x, why)
	}
}

func TestVersionOutOfRange(t *testing.T) {
	for _, n := range oddNumbers() {
		wantNoVersionNumber(t, versionOf(n, 1, 1))
		wantNoVersionNumber(t, versionOf(n, 1, 0))
		wantNoVersionNumber(t, versionOf(1, n, 1))
		wantNoVersionNumber(t, versionOf(0, n, 0))
		wantNoVersionNumber(t, versionOf(1, 1, n))
		wantNoVersionNumber(t, versionOf(0, 1, n))
	}
	for _, nth := range []int{0, api.MaxNth + 1, 1 << 13} {
		wantNoVersionNumber(t, versionOf(1, 1, nth))
		wantNoVersionNumber(t, versionOf(api.MaxId, 1, nth))
	}
	for _, nth := range []int{1, 2, api.MaxNth, api.MaxNth + 1} {
		wantNoVersionNumber(t, versionOf(0, 1, nth))
	}
	wantNoVersionNumber(t, versionOf(1, 0, 1))
	wantNoVersionNumber(t, versionOf(0, 0, 0))
}

func wantNoVersion(t *testing.T, x uint64) {
	t.Helper()
	if v, why := pack.Unversion(x); v != (api.Version{}) || why != api.ErrForm {
		t.Errorf("Unversion(%d): %v, %d; want none, ErrForm", x, v, why)
	}
}

func TestUnversionOfNoNumber(t *testing.T) {
	const first, one = uint64(1 << 12), uint64(1<<32 + 1<<12 + 1)
	for _, x := range []uint64{0, 1, api.MaxNth, first + 1, first + api.MaxNth, 1 << 32, one - 1, one - 1<<12, one - 1<<32} {
		wantNoVersion(t, x)
	}
	for bit := 52; bit < 64; bit++ {
		wantNoVersion(t, first+1<<bit)
		wantNoVersion(t, one+1<<bit)
	}
	wantNoVersion(t, math.MaxUint64)
}

func TestVersionThereAndBack(t *testing.T) {
	met := map[uint64]bool{}
	for _, tx := range []int{0, 1, 2, 524288, api.MaxId} {
		for _, key := range []int{1, 2, 524288, api.MaxKey} {
			for _, nth := range []int{1, 2, 2048, api.MaxNth} {
				v := versionOf(tx, key, min(nth, tx*nth))
				x, why := pack.Version(v)
				if why != api.OK || met[x] && tx > 0 {
					t.Fatalf("Version(%v): %d, %d", v, x, why)
				}
				met[x] = true
				if back, why := pack.Unversion(x); back != v || why != api.OK {
					t.Fatalf("Unversion of Version(%v): %v, %d", v, back, why)
				}
			}
		}
	}
}

// 2.3

func TestLessLooksAtPartsInTurn(t *testing.T) {
	rising := []api.Edge{
		edgeOf(1, 1, 1, 1), edgeOf(1, 1, 1, 2), edgeOf(1, 1, 2, 1), edgeOf(1, 2, 1, 1),
		edgeOf(1, 2, 1, 9), edgeOf(1, 2, 9, 1), edgeOf(1, 3, 1, 1), edgeOf(2, 1, 1, 1), edgeOf(2, 1, 1, 2),
	}
	for i, a := range rising {
		for k, b := range rising {
			if pack.Less(a, b) != (i < k) {
				t.Errorf("Less(%v, %v) is %v", a, b, i >= k)
			}
		}
	}
}

func TestLessOfAnyNumbers(t *testing.T) {
	l := anyEdges(7, 300)
	for _, a := range l {
		for _, b := range l {
			if pack.Less(a, b) != ahead(a, b) {
				t.Fatalf("Less(%v, %v) is %v", a, b, !ahead(a, b))
			}
		}
	}
	least, most := edgeOf(math.MinInt, 1, 1, 1), edgeOf(math.MaxInt, 1, 1, 1)
	if !pack.Less(least, most) || pack.Less(most, least) {
		t.Errorf("the least and the greatest number are not in order")
	}
}

func TestSort(t *testing.T) {
	a, b, c := edgeOf(1, 1, 1, 1), edgeOf(1, 1, 1, 2), edgeOf(2, 1, 1, 1)
	want := map[string][2][]api.Edge{
		"nil":       {nil, nil},
		"none":      {{}, nil},
		"one":       {{b}, {b}},
		"in order":  {{a, b, c}, {a, b, c}},
		"backward":  {{c, b, a}, {a, b, c}},
		"one twice": {{b, b}, {b}},
		"repeated":  {{c, a, c, b, a, a}, {a, b, c}},
	}
	for name, w := range want {
		if got := pack.Sort(w[0]); !slices.Equal(got, w[1]) {
			t.Errorf("%s: %v, want %v", name, got, w[1])
		}
	}
}

func TestSortOfAnyNumbers(t *testing.T) {
	for seed := range int64(20) {
		l := anyEdges(seed, 400)
		l = append(l, l[:100]...)
		lacks := map[api.Edge]bool{}
		for _, e := range l {
			lacks[e] = true
		}
		got := pack.Sort(l)
		for i, e := range got {
			if i > 0 && !ahead(got[i-1], e) {
				t.Fatalf("%v stands ahead of %v", got[i-1], e)
			}
			if !lacks[e] {
				t.Fatalf("%v was not handed in", e)
			}
			delete(lacks, e)
		}
		if len(lacks) > 0 {
			t.Fatalf("these lack: %v", lacks)
		}
	}
}

func TestSortNeitherChangesNorKeepsItsList(t *testing.T) {
	a, b, c := edgeOf(1, 1, 1, 1), edgeOf(1, 1, 1, 2), edgeOf(2, 1, 1, 1)
	for _, l := range [][]api.Edge{{c, a, b, a}, {a, b, c}} {
		as := slices.Clone(l)
		got := pack.Sort(l)
		if !slices.Equal(l, as) {
			t.Errorf("the list is %v, and was %v", l, as)
		}
		got[0] = edgeOf(9, 9, 9, 9)
		if !slices.Equal(l, as) {
			t.Errorf("the answer shares memory with the list")
		}
		l[1] = edgeOf(8, 8, 8, 8)
		if !slices.Equal(got[1:], []api.Edge{b, c}) {
			t.Errorf("the answer hangs on the list: %v", got)
		}
	}
}

// 2.4

func TestOneOrder(t *testing.T) {
	l := edgesWithNumbers()
	for _, a := range l {
		x, _ := pack.Edge(a)
		for _, b := range l {
			y, _ := pack.Edge(b)
			if pack.Less(a, b) != (x < y) {
				t.Fatalf("%v and %v stand otherwise than %d and %d", a, b, x, y)
			}
		}
	}
	last := uint64(0)
	for _, e := range pack.Sort(l) {
		x, _ := pack.Edge(e)
		if x <= last {
			t.Fatalf("%v stands behind one of a greater number", e)
		}
		last = x
	}
}
