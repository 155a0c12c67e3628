package sample_test

import (
	"math/rand"
	"testing"

	"tenter/history"
	"tenter/sample"
)

func TestTextIsReadBack(t *testing.T) {
	for _, text := range []string{"", "1 a", "1 c w5 r5@0 r5@1.1; 2 a r5@1.1; 5: 1", "2 a; 1 a; 7:; 6: 1 2 1"} {
		if got := sample.Text(sample.History(text)); got != text {
			t.Errorf("%q is read as %q", text, got)
		}
	}
}

func TestWhatIsDrawnIsRight(t *testing.T) {
	from := rand.New(rand.NewSource(1))
	h, met := sample.History(""), map[string]bool{}
	for range 2000 {
		h = sample.DrawEdit(h, from.Intn)
		if !history.Right(h) {
			t.Fatalf("%s is not right", sample.Text(h))
		}
		met[sample.Text(h)] = true
	}
	if len(met) < 500 {
		t.Errorf("%d histories of 2000 alone are drawn", len(met))
	}
}

func TestHistoriesThatAreDrawnAreRight(t *testing.T) {
	from := rand.New(rand.NewSource(2))
	met := map[string]bool{}
	for range 2000 {
		h := sample.DrawHistory(from.Intn)
		if !history.Right(h) {
			t.Fatalf("%s is not right", sample.Text(h))
		}
		met[sample.Text(h)] = true
	}
	if len(met) < 1500 {
		t.Errorf("%d histories of 2000 alone are drawn", len(met))
	}
}

func TestDeltas(t *testing.T) {
	for text, want := range map[string]string{
		"": "-{} +{}", "-1 a; +1 c w5; -5:; +5: 1": "-{1 a; 5:} +{1 c w5; 5: 1}", "+2 a; +1 a; +6: 1 1; +5: 2": "-{} +{2 a; 1 a; 6: 1 1; 5: 2}",
	} {
		d := sample.Delta(text)
		c := sample.CopyDelta(d)
		if got := sample.DeltaText(d); got != want {
			t.Errorf("%q is read as %q", text, got)
		}
		sample.SpoilDelta(d)
		if got := sample.DeltaText(c); got != want || text != "" && sample.DeltaText(d) == want {
			t.Errorf("of %q: %q, %q", text, got, sample.DeltaText(d))
		}
	}
}

func TestCopyAndSpoil(t *testing.T) {
	const text = "1 c w5; 2 a r5@1.1; 5: 1"
	h := sample.History(text)
	c := sample.Copy(h)
	ids := h.Orders[0].Txs
	ops := h.Txs[0].Ops
	sample.Spoil(h)
	if sample.Text(c) != text || ids[0] == 1 || ops[0].Key == 5 || h.Txs[0].Id == 1 || h.Orders[0].Key == 5 {
		t.Errorf("%q; %v, %v, %q", sample.Text(c), ids, ops, sample.Text(h))
	}
}
