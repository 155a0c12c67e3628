package closure

import (
	"testing"

	"tenter/api"
)

// An arc may be there MaxNum times: too often for a test to add them all.
func TestAddUpToMaxNum(t *testing.T) {
	c := New(3)
	c.Add(0, 1)
	c.Add(1, 2)
	c.counts.set(0, 1, api.MaxNum-1)
	if why := c.Add(0, 1); why != api.OK || c.Arcs(0, 1) != 2147483647 || len(c.Last()) != 0 {
		t.Fatalf("Add up to MaxNum: %d, Arcs %d, Last %v", why, c.Arcs(0, 1), c.Last())
	}
	c.Drop(1, 2)
	for range 3 {
		if why := c.Add(0, 1); why != api.ErrFull || c.Arcs(0, 1) != 2147483647 {
			t.Fatalf("Add past MaxNum: %d, Arcs %d", why, c.Arcs(0, 1))
		}
	}
	if l := c.Last(); len(l) != 2 || !c.Reaches(0, 1) {
		t.Errorf("what was refused changed something: Last %v", l)
	}
	if why := c.Add(3, 1); why != api.ErrRange {
		t.Errorf("Add of no node: %d", why)
	}
	if why := c.Add(1, 0); why != api.OK || c.Arcs(1, 0) != 1 {
		t.Errorf("another arc: %d, Arcs %d", why, c.Arcs(1, 0))
	}
	if why := c.Drop(0, 1); why != api.OK || c.Arcs(0, 1) != 2147483646 {
		t.Errorf("Drop: %d, Arcs %d", why, c.Arcs(0, 1))
	}
	if why := c.Add(0, 1); why != api.OK || c.Arcs(0, 1) != 2147483647 {
		t.Errorf("Add once more: %d, Arcs %d", why, c.Arcs(0, 1))
	}
}

// What is not there leaves nothing behind.
func TestNoCountNoEntry(t *testing.T) {
	c := New(70)
	for node := range 70 {
		c.Add(node, 69-node)
		c.Add(node, 69-node)
	}
	if len(c.counts) != 70 {
		t.Fatalf("%d entries", len(c.counts))
	}
	for node := range 70 {
		c.Drop(node, 69-node)
		c.Drop(node, 69-node)
		c.Drop(node, 69-node)
	}
	if len(c.counts) != 0 {
		t.Fatalf("%d entries", len(c.counts))
	}
	for node := range 70 {
		if c.next[node].Count()+c.prev[node].Count()+c.rows[node].Count() != 0 {
			t.Fatalf("of %d something is left", node)
		}
	}
}
