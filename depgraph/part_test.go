package depgraph

import (
	"math/rand"
	"slices"
	"testing"

	"tenter/api"
	"tenter/dsg"
	"tenter/history"
	"tenter/offend"
	"tenter/sample"
)

// drawKeys draws some of the keys that histories are drawn with, and some that they are not.
func drawKeys(from *rand.Rand) []int {
	var keys []int
	for _, key := range []int{-1, 0, 1, 2, 3, 4} {
		if from.Intn(2) == 0 {
			keys = append(keys, key)
		}
	}
	return keys
}

func TestPartHasWhatItsKeysHave(t *testing.T) {
	from := rand.New(rand.NewSource(201))
	edges, reads, fewer := 0, 0, 0
	for range 2500 {
		h, keys := sample.DrawHistory(from.Intn), drawKeys(from)
		was := sample.Copy(h)
		some := part(h, keySet(keys))
		if !history.Right(some) || !history.Same(h, was) {
			t.Fatalf("of %s: %v: %s", sample.Text(was), keys, sample.Text(some))
		}
		others := func(key int) bool { return !slices.Contains(keys, key) }
		l := slices.DeleteFunc(dsg.Edges(h), func(x api.Heavy) bool { return others(x.Edge.Key) })
		if got := dsg.Edges(some); !slices.Equal(got, l) {
			t.Fatalf("of %s: %v: edges %v, want %v", sample.Text(h), keys, got, l)
		}
		edges += len(l)
		for _, phen := range []int{api.G1a, api.G1b} {
			l := slices.DeleteFunc(offend.Of(h, phen), func(b api.Bad) bool { return others(b.Of.Key) })
			if got := offend.Of(some, phen); !slices.Equal(got, l) {
				t.Fatalf("of %s: %v: reads %d %v, want %v", sample.Text(h), keys, phen, got, l)
			}
			reads += len(l)
		}
		if len(some.Txs) < len(h.Txs) {
			fewer++
		}
	}
	if edges < 3000 || reads < 500 || fewer < 300 {
		t.Errorf("too little to look at: %d, %d, %d", edges, reads, fewer)
	}
}

// A change of one key must not look at transactions that have nothing to do with it.
func TestPartIsNoMoreThanItNeeds(t *testing.T) {
	h := sample.History("1 c w5; 2 c w6 r5@1.1; 3 c w6; 4 c; 5 a r7@0 r5@0; 5: 1; 6: 3 2")
	for _, l := range []struct {
		keys []int
		want string
	}{
		{nil, ""}, {[]int{8}, ""}, {[]int{6}, "2 c w6 r5@0; 3 c w6; 6: 3 2"}, {[]int{5}, "1 c w5; 2 c r6@0 r5@1.1; 5 a r7@0 r5@0; 5: 1"}, {[]int{7}, "5 a r7@0 r5@0"}, {[]int{7, 6, 5}, "1 c w5; 2 c w6 r5@1.1; 3 c w6; 5 a r7@0 r5@0; 5: 1; 6: 3 2"},
	} {
		if got := sample.Text(part(h, keySet(l.keys))); got != l.want {
			t.Errorf("of %v: %s, want %s", l.keys, got, l.want)
		}
	}
}
