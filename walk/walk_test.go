package walk_test

import (
	"math"
	"math/rand"
	"slices"
	"strconv"
	"testing"

	"tenter/api"
	"tenter/sample"
	"tenter/walk"
)

// What the chapter says, once more, by going through all that there is.

func closed(l []api.Edge) bool {
	if len(l) == 0 || l[len(l)-1].To != l[0].From {
		return false
	}
	for i := 1; i < len(l); i++ {
		if l[i-1].To != l[i].From {
			return false
		}
	}
	return true
}

func simple(l []api.Edge) bool {
	for i := range l {
		for k := range i {
			if l[i].From == l[k].From {
				return false
			}
		}
	}
	return true
}

func maskOf(l []api.Edge) int {
	has := [3]int{}
	for _, e := range l {
		for kind := range 3 {
			if e.Kind == kind+1 {
				has[kind] = 1
			}
		}
	}
	return 2*has[0] + 4*has[1] + 8*has[2]
}

func ahead(a, b []api.Edge) bool {
	if len(a) != len(b) {
		return len(a) < len(b)
	}
	for i := range a {
		if a[i] != b[i] {
			return sample.CompareEdges(a[i], b[i]) < 0
		}
	}
	return false
}

// from tells the walk that begins at a place of l, and goes round.
func from(l []api.Edge, at int) []api.Edge {
	var turned []api.Edge
	for i := range l {
		turned = append(turned, l[(at+i)%len(l)])
	}
	return turned
}

func turned(l []api.Edge) []api.Edge {
	best := l
	for at := range l {
		if ahead(from(l, at), best) {
			best = from(l, at)
		}
	}
	return best
}

func textOf(l []api.Edge) string {
	text := ""
	for i, e := range l {
		if i == 0 {
			text = strconv.Itoa(e.From)
		}
		word := map[int]string{1: "ww", 2: "wr", 3: "rw"}[e.Kind]
		if word == "" {
			word = "x"
		}
		text += " " + word + strconv.Itoa(e.Key) + " " + strconv.Itoa(e.To)
	}
	return text
}

// want holds all that is told of one walk against the above.
func want(t *testing.T, l []api.Edge) {
	t.Helper()
	was := slices.Clone(l)
	if walk.Closed(l) != closed(l) || walk.Simple(l) != simple(l) {
		t.Fatalf("%v: closed %v, simple %v", l, walk.Closed(l), walk.Simple(l))
	}
	if mask := walk.Mask(l); mask != maskOf(l) {
		t.Fatalf("Mask of %v: %d", l, mask)
	}
	if text := walk.Text(l); text != textOf(l) {
		t.Fatalf("Text of %v: %q", l, text)
	}
	if got := walk.Turn(l); !slices.Equal(got, turned(l)) {
		t.Fatalf("Turn of %v: %v", l, got)
	}
	if !slices.Equal(l, was) {
		t.Fatalf("%v has become %v", was, l)
	}
}

// drawWalk draws edges, mostly of few numbers; it closes many of them.
func drawWalk(r *rand.Rand, most int) []api.Edge {
	ids, kinds, keys := []int{1, 2, 3}, []int{1, 2, 3}, []int{4, 5}
	switch r.Intn(3) {
	case 0:
		ids, kinds, keys = sample.OddNumbers(), append(sample.OddNumbers(), 1, 2, 3), sample.OddNumbers()
	case 1:
		kinds, keys = []int{2}, []int{5}
	}
	var l []api.Edge
	for range r.Intn(most + 1) {
		l = append(l, sample.DrawEdge(r.Intn, ids, kinds, keys))
	}
	if r.Intn(3) > 0 {
		for i := range l {
			l[i].To = l[(i+1)%len(l)].From
		}
	}
	if r.Intn(4) == 0 {
		l = append(l, l...)
	}
	return l
}

// 28.1

func TestClosed(t *testing.T) {
	for text, is := range map[string]bool{
		"": false, "2 rw4 1 ww5 2": true, "1 ww5 1": true, "1 ww5 2": false, "1 ww5 2 ww5 3": false, "1 ww5 2; 1 ww5 2": false, "1 ww5 2; 3 ww5 1": false,
		"1 ww5 2 wr5 3 rw5 1": true, "1 ww5 2; 3 wr5 1; 2 rw5 3": false, "1 ww5 1 ww5 1": true, "1 ww5 2 x5 1": true, "0 x-7 -3 x0 0": true, "-3 ww5 3 ww5 3": false,
		"1 ww5 2 ww5 1 ww5 2 ww5 1": true, "2 ww5 1; 1 ww5 1": false, "1 ww5 1; 2 ww5 2": false,
	} {
		if got := walk.Closed(sample.Edges(text)); got != is {
			t.Errorf("Closed of %s: %v", text, got)
		}
		want(t, sample.Edges(text))
	}
}

func TestSimple(t *testing.T) {
	for text, is := range map[string]bool{
		"": true, "1 ww5 2": true, "1 ww5 1": true, "1 ww5 2; 1 rw4 3": false, "1 ww5 2; 3 ww5 2": true, "1 ww5 2 ww5 3 ww5 2": true, "1 ww5 2 ww5 3 ww5 1 ww5 4": false,
		"-1 ww5 1 ww5 0": true, "0 x0 0; -1 ww5 -1; 0 ww7 3": false, "1 ww5 2; 2 ww5 9; 3 ww5 1; 2 ww5 9": false,
	} {
		if got := walk.Simple(sample.Edges(text)); got != is {
			t.Errorf("Simple of %s: %v", text, got)
		}
		want(t, sample.Edges(text))
	}
}

func TestMask(t *testing.T) {
	for text, mask := range map[string]int{
		"": 0, "1 ww5 2": 2, "1 wr5 2": 4, "1 rw5 2": 8, "1 ww5 2 wr5 3; 7 rw1 1": 14, "1 rw5 2 rw5 3": 8, "1 x5 2 ww5 1": 2, "1 x5 2": 0,
	} {
		if got := walk.Mask(sample.Edges(text)); got != mask {
			t.Errorf("Mask of %s: %d", text, got)
		}
	}
}

// Kinds that are none of the three have no bit, and are written x.
func TestOddKinds(t *testing.T) {
	for _, kind := range append(sample.OddNumbers(), 5, -2, -3, -62, -63, -64, 31, 32, 33, 62, 67, 1<<8+1, 1<<16+2, 1<<32+3) {
		l := []api.Edge{{From: 1, To: 2, Kind: kind, Key: 5}}
		if mask, text := walk.Mask(l), walk.Text(l); mask != 0 || text != "1 x5 2" {
			t.Errorf("of kind %d: %d, %q", kind, mask, text)
		}
		l = append(l, api.Edge{From: 2, To: 1, Kind: api.RW, Key: 4})
		if mask, text := walk.Mask(l), walk.Text(l); mask != 8 || text != "1 x5 2 rw4 1" {
			t.Errorf("of kind %d, and RW: %d, %q", kind, mask, text)
		}
	}
}

func TestLess(t *testing.T) {
	rising := []string{
		"", "1 ww4 2", "1 ww5 1", "1 ww5 2", "1 wr1 1", "2 ww1 1",
		"-9 x0 0; -9 x0 0", "1 ww5 2 ww5 1", "1 ww5 2 ww5 3", "1 ww5 2 wr4 1", "1 ww5 3 ww1 1", "1 rw5 2; 1 ww1 1", "2 ww5 1 ww5 2",
		"-7 ww1 1 ww1 1 ww1 1", "1 ww1 1 ww1 1 ww1 1",
	}
	for i, a := range rising {
		for k, b := range rising {
			if got := walk.Less(sample.Edges(a), sample.Edges(b)); got != (i < k) {
				t.Errorf("Less of %s and %s: %v", a, b, got)
			}
		}
	}
}

// Each of an edge's parts counts, and counts as a whole.
func TestLessAndSameByParts(t *testing.T) {
	l := sample.Edges("1 ww5 2 wr6 3")
	for _, n := range []int{1, 1 << 20, 1 << 32, 1 << 62} {
		for i := range l {
			for part := range 4 {
				more := slices.Clone(l)
				*[]*int{&more[i].From, &more[i].Kind, &more[i].Key, &more[i].To}[part] += n
				if !walk.Less(l, more) || walk.Less(more, l) || walk.Same(l, more) || walk.Same(more, l) {
					t.Errorf("%v and %v: Less %v, %v, Same %v", l, more, walk.Less(l, more), walk.Less(more, l), walk.Same(l, more))
				}
			}
		}
	}
	if walk.Less(l, slices.Clone(l)) || !walk.Same(l, slices.Clone(l)) {
		t.Errorf("%v and itself", l)
	}
}

func TestSame(t *testing.T) {
	for _, x := range []struct {
		a, b string
		is   bool
	}{
		{"", "", true}, {"", "1 ww5 1", false}, {"1 ww5 1", "1 ww5 1", true}, {"1 ww5 1", "1 ww5 1 ww5 1", false}, {"1 ww5 2 rw4 1", "2 rw4 1 ww5 2", false}, {"1 ww5 2 rw4 1", "1 ww5 2 rw4 1", true}, {"1 ww5 2; 7 rw4 1", "1 ww5 2; 6 rw4 1", false},
	} {
		a, b := sample.Edges(x.a), sample.Edges(x.b)
		if walk.Same(a, b) != x.is || walk.Same(b, a) != x.is {
			t.Errorf("Same of %s and %s: %v", x.a, x.b, !x.is)
		}
	}
	if !walk.Same(nil, []api.Edge{}) || walk.Less(nil, []api.Edge{}) || walk.Less([]api.Edge{}, nil) {
		t.Error("nil and an empty list are not one")
	}
}

func TestLessAndSameOfAny(t *testing.T) {
	r := rand.New(rand.NewSource(281))
	same := 0
	for range 100000 {
		a, b := drawWalk(r, 3), drawWalk(r, 3)
		if r.Intn(8) == 0 {
			b = slices.Clone(a)
		} else if n := min(len(a), len(b)); n > 0 && r.Intn(2) == 0 {
			copy(b, a[:r.Intn(n+1)])
		}
		if walk.Less(a, b) != ahead(a, b) || walk.Same(a, b) != slices.Equal(a, b) {
			t.Fatalf("%v and %v: Less %v, Same %v", a, b, walk.Less(a, b), walk.Same(a, b))
		}
		if walk.Same(a, b) {
			same++
		}
	}
	if same < 5000 {
		t.Errorf("%d alone are the same", same)
	}
}

// 28.1, 28.2, 28.3

func TestAny(t *testing.T) {
	r := rand.New(rand.NewSource(282))
	met := map[[2]bool]int{}
	for range 30000 {
		l := drawWalk(r, 9)
		want(t, l)
		met[[2]bool{walk.Closed(l), walk.Simple(l)}]++
	}
	for is, n := range met {
		if n < 1000 || len(met) != 4 {
			t.Errorf("closed, and simple, %v: %d", is, n)
		}
	}
}

// 28.2

func TestTurn(t *testing.T) {
	for text, to := range map[string]string{
		"": "", "7 rw1 3": "7 rw1 3", "2 rw4 1 ww5 2": "1 ww5 2 rw4 1", "1 ww5 2 rw4 1": "1 ww5 2 rw4 1",
		"3 ww1 2; 9 x0 9; 2 rw7 7; 2 rw6 8": "2 rw6 8; 3 ww1 2; 9 x0 9; 2 rw7 7", // open ones, too
		"1 ww5 3 ww5 1 ww5 2 ww5 1":         "1 ww5 2 ww5 1 ww5 3 ww5 1",
		"1 ww5 2 ww5 1 ww4 2 ww5 1":         "1 ww4 2 ww5 1 ww5 2 ww5 1",
		"1 ww5 1 ww5 1 ww6 1 ww5 1":         "1 ww5 1 ww5 1 ww5 1 ww6 1",
		"1 rw1 2; 1 wr1 2; 1 ww1 2":         "1 ww1 2; 1 rw1 2; 1 wr1 2",
		"0 ww1 0; -1 ww1 0; 0 x-1 0":        "-1 ww1 0; 0 x-1 0; 0 ww1 0",
	} {
		if got := walk.Turn(sample.Edges(text)); !slices.Equal(got, sample.Edges(to)) {
			t.Errorf("Turn of %s: %s", text, walk.Text(got))
		}
	}
}

// All rings of two edges, however often they stand in it.
func TestTurnOfAllRings(t *testing.T) {
	two := sample.Edges("1 ww5 1 ww6 1")
	for n := range 13 {
		for bits := range 1 << n {
			var l []api.Edge
			for i := range n {
				l = append(l, two[bits>>i&1])
			}
			if got := walk.Turn(l); !slices.Equal(got, turned(l)) {
				t.Fatalf("Turn of %v: %v", l, got)
			}
		}
	}
}

// Where so many edges are alike, a step for each two of them would not end.
func TestTurnOfMany(t *testing.T) {
	const n = 1000000
	l := slices.Repeat(sample.Edges("2 ww5 2"), n)
	if got := walk.Turn(l); !slices.Equal(got, l) {
		t.Error("of edges that are the same: other ones")
	}
	for _, at := range []int{0, 1, n/2 - 1, n - 1} {
		l[at].Key = 4
		if got := walk.Turn(l); got[0].Key != 4 || !slices.Equal(got, from(l, at)) {
			t.Errorf("the least one at %d: another one is first", at)
		}
		l[at].Key = 6
		if got := walk.Turn(l); got[n-1].Key != 6 || !slices.Equal(got, from(l, (at+1)%n)) {
			t.Errorf("the greatest one at %d: another one is last", at)
		}
		l[at].Key = 5
	}
	l = slices.Repeat(sample.Edges("2 ww5 2 ww4 2 ww4 2"), n/3)
	if got := walk.Turn(l); !slices.Equal(got, from(l, 1)) {
		t.Error("of threes that are the same: not the first of them")
	}
}

// 28.3

func TestText(t *testing.T) {
	for _, text := range []string{"", "1 ww5 2 rw4 1", "7 wr1048575 1048575", "-3 rw-7 0 ww0 -3", "1 ww5 1 wr5 1 rw5 1 x5 1"} {
		if got := walk.Text(sample.Edges(text)); got != text {
			t.Errorf("Text of %s: %q", text, got)
		}
	}
	if got := walk.Text(sample.Edges("1 ww5 2; 3 rw4 9; 7 wr1 1")); got != "1 ww5 2 rw4 9 wr1 1" {
		t.Errorf("of a list that is no walk: %q", got)
	}
	l := []api.Edge{{From: math.MinInt, To: math.MaxInt, Kind: math.MinInt, Key: math.MaxInt}}
	if got := walk.Text(l); got != "-9223372036854775808 x9223372036854775807 9223372036854775807" {
		t.Errorf("of the greatest numbers: %q", got)
	}
}

// 28.4

func TestTurned(t *testing.T) {
	r := rand.New(rand.NewSource(284))
	for range 5000 {
		l := drawWalk(r, 12)
		once := walk.Turn(l)
		a, b := slices.Clone(l), slices.Clone(once)
		slices.SortFunc(a, sample.CompareEdges)
		slices.SortFunc(b, sample.CompareEdges)
		if !slices.Equal(a, b) {
			t.Fatalf("Turn of %v has other edges: %v", l, once)
		}
		if twice := walk.Turn(once); !walk.Same(once, twice) {
			t.Fatalf("turned once more: %v and %v", once, twice)
		}
		if walk.Closed(l) && !walk.Closed(once) {
			t.Fatalf("Turn of %v is not closed: %v", l, once)
		}
		for at := range l {
			other := from(l, at)
			if !walk.Same(walk.Turn(other), once) || walk.Less(other, once) {
				t.Fatalf("from place %d on: %v, not %v", at, walk.Turn(other), once)
			}
		}
	}
}

// Memory

func TestTurnIsNewMemory(t *testing.T) {
	for _, text := range []string{"1 ww5 2", "1 ww5 2 rw4 1", "2 rw4 1 ww5 2"} {
		l := sample.Edges(text)
		got := walk.Turn(l)
		for i := range got {
			got[i] = api.Edge{}
		}
		_ = append(got, got...)
		if !slices.Equal(l, sample.Edges(text)) {
			t.Errorf("of %s: %v", text, l)
		}
	}
	// Room behind the list is not used, either.
	room := sample.Edges("2 rw4 1 ww5 2 wr6 7")
	walk.Turn(room[:2])
	if !slices.Equal(room, sample.Edges("2 rw4 1 ww5 2 wr6 7")) {
		t.Errorf("what stands behind the list: %v", room)
	}
}
